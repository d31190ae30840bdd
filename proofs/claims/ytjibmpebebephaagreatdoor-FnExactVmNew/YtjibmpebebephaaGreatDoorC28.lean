/-
  slices.Repeat of a slice of one int: so many of it, in new memory; nothing that was there is turned.
-/
import Derived.Laws.MakeOwn
import Derived.Laws.CopyOwn
import Derived.Deep.RegionLaw
import Derived.WalkSmall
import Derived.Test.YtjibmpebebephaaGreatDoorC1
import Derived.Test.YtjibmpebebephaaGreatDoorC2
import Derived.Test.YtjibmpebebephaaGreatDoorC3
import Derived.Test.YtjibmpebebephaaGreatDoorC4
import Derived.Test.YtjibmpebebephaaGreatDoorC5
import Derived.Test.YtjibmpebebephaaGreatDoorC6
import Derived.Test.YtjibmpebebephaaGreatDoorC7
import Derived.Test.YtjibmpebebephaaGreatDoorC8
import Derived.Test.YtjibmpebebephaaGreatDoorC9
import Derived.Test.YtjibmpebebephaaGreatDoorC10
import Derived.Test.YtjibmpebebephaaGreatDoorC11
import Derived.Test.YtjibmpebebephaaGreatDoorC12
import Derived.Test.YtjibmpebebephaaGreatDoorC13
import Derived.Test.YtjibmpebebephaaGreatDoorC14
import Derived.Test.YtjibmpebebephaaGreatDoorC15
import Derived.Test.YtjibmpebebephaaGreatDoorC16
import Derived.Test.YtjibmpebebephaaGreatDoorC17
import Derived.Test.YtjibmpebebephaaGreatDoorC18
import Derived.Test.YtjibmpebebephaaGreatDoorC19
import Derived.Test.YtjibmpebebephaaGreatDoorC20
import Derived.Test.YtjibmpebebephaaGreatDoorC21
import Derived.Test.YtjibmpebebephaaGreatDoorC22
import Derived.Test.YtjibmpebebephaaGreatDoorC23
import Derived.Test.YtjibmpebebephaaGreatDoorC24
import Derived.Test.YtjibmpebebephaaGreatDoorC25
import Derived.Test.YtjibmpebebephaaGreatDoorC26
import Derived.Test.YtjibmpebebephaaGreatDoorC27
namespace Go.Proofs.YtjibmpebebephaaGreatDoor.ints
open Go Go.RowKit Go.Deep Go.Proofs.YtjibmpebebephaaGreatDoor.rose Go.Proofs.YtjibmpebebephaaGreatDoor
set_option linter.unusedVariables false
set_option linter.unusedSimpArgs false

theorem infoR_int : (Tryz.prog.info? 3).map (fun i => (i.zero, i.size, i.bytes)) = some (some (.int .i64 0), 1, 8) := by kernel_rfl
theorem sizeR_int : (Tryz.prog.info? 3).map (·.size) = some 1 := by kernel_rfl

/-- The row on its way: m of them are laid. -/
def laidR (x : Int) (m n : Nat) : List Value := List.replicate m (.int .i64 x) ++ List.replicate (n - m) (.int .i64 0)
theorem laidR_len (x : Int) {m n : Nat} (h : m ≤ n) : (laidR x m n).length = n := by simp [laidR]; omega
theorem laidR_all (x : Int) (n : Nat) : laidR x n n = List.replicate n (.int .i64 x) := by simp [laidR]
theorem laidR_splice (x : Int) {m n k : Nat} (h : m + k ≤ n) : splice (laidR x m n) m (List.replicate k (.int .i64 x)) = laidR x (m + k) n := by
  unfold splice laidR
  rw [List.take_left' (by simp), List.drop_append, List.drop_eq_nil_of_le (by simp)]
  simp only [List.length_replicate, List.nil_append, List.drop_replicate]
  rw [show m + k - m = k by omega, show n - m - k = n - (m + k) by omega, ← List.append_assoc, List.replicate_append_replicate]

theorem make_row (n : Nat) (h : n ≤ 3000) (w : World) : (Instr.makeSlice 23 (.int .i64 (n : Int)) (.int .i64 (n : Int))).run Tryz.prog w = .ok (.slice (some ⟨w.heap.size, 0, none⟩) n n)
    (w.alloc (.cells (laidR 0 0 n).toArray 3)) := by
  obtain ⟨i, hi, hzz⟩ := Option.map_eq_some_iff.1 infoR_int
  simp only [Prod.mk.injEq] at hzz
  obtain ⟨hz, hs, hb⟩ := hzz
  have := run_make (P := Tryz.prog) w 23 3 i _ Tryz.underlying23 hi hz .i64 .i64 n n (by omega) (by omega) (by rw [hb]; omega) (by omega)
  have e : madeCells #[Value.int .i64 0] (n * 1) = (laidR 0 0 n).toArray := by
    apply Array.ext
    · simp [madeCells, laidR]
    · intro j h1 h2; simp [madeCells, laidR, Nat.mod_one]
  rw [← e]
  simpa [hs, Value.cells] using this
theorem laidR_zero (x : Int) (n : Nat) : laidR 0 0 n = laidR x 0 n := by simp [laidR]

set_option maxRecDepth 100000 in
set_option maxHeartbeats 8000000 in
theorem repeat_any (x : Int) (g n : Nat) (w : World) (hn : 1 ≤ n ∧ n ≤ 3000) (hg : g < w.heap.size) (hc : w.cell? ⟨g, 0, none⟩ = some (.int .i64 x)) :
    Calls Tryz.prog 95 #[.slice (some ⟨g, 0, none⟩) 1 1, .int .i64 n] w fun e w' => e = .returned (.slice (some ⟨w.heap.size, 0, none⟩) n n) ∧ w'.heap[w.heap.size]? = some (.cells (List.replicate n (.int .i64 x)).toArray 3) ∧ Below w.heap.size w w' := by
  have hmul := Tryz.bitsMul 1 n (by decide) (by omega)
  have em : ∀ y : Nat, y ≤ 3000 → ((1 * y / 18446744073709551616 : Nat) : Int) = 0 ∧ ((1 * y % 18446744073709551616 : Nat) : Int) = (y : Int) := fun y hy => by omega
  simp only [(em n hn.2).1, (em n hn.2).2] at hmul
  clear em
  have hmk := make_row n hn.2
  have n1 : decide ((n : Int) < 0) = false := by simp
  have nI : (n : Int) ≤ 3000 ∧ 1 ≤ (n : Int) := by omega
  have LZ : Hid (laidR 0 0 n = laidR x 0 n ∧ (laidR x 0 n).length = n) := ⟨laidR_zero x n, laidR_len x (by omega)⟩
  have B0 : Hid (Below w.heap.size w (w.alloc (.cells (laidR 0 0 n).toArray 3))) := (Below.refl _ _).alloc (Nat.le_refl _) _
  have H0 : Hid ((w.alloc (.cells (laidR 0 0 n).toArray 3)).heap[w.heap.size]? = some (.cells (laidR x 0 n).toArray 3 (0, 0))) := by show _ = _; rw [LZ.out.1]; exact alloc_top _ _
  have C0 : Hid (∀ j v, [Value.int .i64 x][j]? = some v → (w.alloc (.cells (laidR 0 0 n).toArray 3)).cell? ((⟨g, 0, none⟩ : Addr).add j) = some v) := fun j v hj => by
    match j, hj with
    | 0, hj =>
      simp at hj; subst hj
      rw [add_plain]
      exact (B0.out.cell (p := ⟨g, 0, none⟩) hg).trans hc
    | _ + 1, hj => simp at hj
  go_enter Tryz.func95, Tryz.ntmps95
  go_wp2_with (first
    | (go_at_call 114; refine (hmul _).mono ?_; rintro e w' ⟨rfl, hx⟩; subst w')
    | (refine wpList_copy_splice rfl (.tmp 31) (.tmp 32) 23 23 rfl 3 Tryz.underlying23 sizeR_int (some ⟨w.heap.size, 0, none⟩) (some ⟨g, 0, none⟩) n n 1 1 rfl rfl w.heap.size 0 (laidR x 0 n) 3 H0.out [.int .i64 x] (Nat.min_eq_left hn.1).symm (fun _ => ⟨rfl, ⟨g, 0, none⟩, rfl, C0.out⟩) (by have := LZ.out.2; simp only [List.length_singleton]; omega) (fun v hv => by simp only [List.mem_singleton] at hv; subst hv; rfl) w.heap.size w B0.out (Nat.le_refl _) ?_
       intro w2 hw2 hb2))
  have e1 : splice (laidR x 0 n) 0 [.int .i64 x] = laidR x 1 n := laidR_splice x (k := 1) (by omega)
  rw [e1] at hw2
  clear hmul hmk H0 C0 B0 LZ e1 n1
  go_loopw [8] (fun v8 wr => ∃ m : Nat, 1 ≤ m ∧ m ≤ n ∧ v8 = .int .i64 m ∧ Hid (wr.heap[w.heap.size]? = some (.cells (laidR x m n).toArray 3 (0, 0)) ∧ Below w.heap.size w wr)) (fun v8 _ => n - (intOf v8).toNat)
  case atStart => exact ⟨1, Nat.le_refl _, hn.1, rfl, hw2.out, hb2⟩
  case round =>
    obtain ⟨m, hm1, hmn, rfl, HK⟩ := hrel
    by_cases hlt : m < n
    · obtain ⟨k, hk⟩ : ∃ k, k = Nat.min m (n - m) := ⟨_, rfl⟩
      have hk1 : 1 ≤ k ∧ m + k ≤ n := by have h1 : Nat.min m (n - m) = min m (n - m) := rfl; rw [hk, h1]; omega
      have HKE : Hid (k = Nat.min m (n - m)) := hk
      have C1 : Hid (∀ j v, (List.replicate k (Value.int .i64 x))[j]? = some v → wr.drew.cell? ((⟨w.heap.size, 0, none⟩ : Addr).add j) = some v) := fun j v hj => by
        obtain ⟨hj1, hj2⟩ := List.getElem?_eq_some_iff.1 hj
        simp only [List.getElem_replicate, List.length_replicate] at hj1 hj2
        subst hj2
        have hjm : j < m := by have h1 : Nat.min m (n - m) = min m (n - m) := rfl; rw [h1] at hk; omega
        rw [add_plain]
        show wr.cell? _ = _
        simp [World.cell?, HK.out.1, laidR, hjm, List.getElem?_append_left]
      clear hk
      have mI : (m : Int) ≤ (n : Int) ∧ (m : Int) < (n : Int) := by omega
      go_wp2
      go_region_law
        (refine step_copy_splice rfl (.tmp 41) (.tmp 44) 23 23 rfl 3 Tryz.underlying23 sizeR_int (some ⟨w.heap.size, m, none⟩) (some ⟨w.heap.size, 0, none⟩) (n - m) (n - m) m n (by simp [Act.eval, Act.put]; try omega) (by simp [Act.eval, Act.put]) w.heap.size m (laidR x m n) 3 HK.out.1 (List.replicate k (.int .i64 x)) (by rw [List.length_replicate]; exact HKE.out) (fun _ => ⟨rfl, ⟨w.heap.size, 0, none⟩, rfl, C1.out⟩) (by rw [List.length_replicate, laidR_len x hmn]; exact hk1.2) (fun v hv => by have := List.eq_of_mem_replicate hv; subst this; rfl) w.heap.size w (by first | exact HK.out.2.drew | exact HK.out.2) (Nat.le_refl _) ?_
         intro w4 hg4 hb4)
      all_goals
        have hg5 := hg4.out
        rw [laidR_splice x hk1.2] at hg5
        have HN : Hid (w4.heap[w.heap.size]? = some (.cells (laidR x (m + k) n).toArray 3 (0, 0)) ∧ Below w.heap.size w w4) := ⟨hg5, hb4⟩
        clear hg4 hg5 hb4 HK C1
        try simp only [List.length_replicate, goInt]
        have ew : IntKind.i64.wrap ((m : Int) + (k : Int)) = ((m + k : Nat) : Int) := by rw [IntKind.wrap_i64]; omega
        go_wp2
        exact ⟨⟨m + k, by omega, hk1.2, by omega, HN⟩, by simp only [intOf]; omega⟩
    · obtain rfl : m = n := by omega
      go_wp2
      go_ret
      exact ⟨rfl, by have := HK.out.1; rw [laidR_all] at this; exact this, HK.out.2⟩

end Go.Proofs.YtjibmpebebephaaGreatDoor.ints

/-
  The program's standings, at every list of Binds: a new map whose keys are the Binds' numbers.
-/
import Derived.Test.YtfekbchmgnpkaaaBindSz
import Derived.Test.YtfekbchmgnpkaaaMapKeys
import Derived.Maps.OwnOps
import Derived.Maps.OwnSet
import Derived.WalkKit
namespace Go.Proofs.Ytfekbchmgnpkaaa.bind
open Go.RowKit Go.Maps Go.Proofs.Ytfekbchmgnpkaaa.rose Go.Proofs.Ytfekbchmgnpkaaa.keys Go.Proofs.Ytfekbchmgnpkaaa
set_option linter.unusedVariables false
set_option linter.unusedSimpArgs false

/-- How an element reads: five cells. -/
def standElem : Value → Option (DataW Unit × List MemPlace)
  | .agg ⟨[c0, c1, c2, c3, c4]⟩ => if c0.oneCell' && (c1.oneCell' && (c2.oneCell' && (c3.oneCell' && c4.oneCell'))) then some (.agg [], []) else none
  | _ => none

theorem standElem_inv {v : Value} {z : DataW Unit × List MemPlace} (h : standElem v = some z) : ∃ c0 c1 c2 c3 c4, v = .agg #[c0, c1, c2, c3, c4] ∧ c0.oneCell' = true ∧ c1.oneCell' = true ∧ c2.oneCell' = true ∧ c3.oneCell' = true ∧ c4.oneCell' = true := by
  unfold standElem at h
  split at h
  · split at h
    · rename_i c0 c1 c2 c3 c4 hc
      simp at hc
      exact ⟨c0, c1, c2, c3, c4, rfl, hc⟩
    · cases h
  · cases h

theorem intKey : Keyed Try.prog 3 := int_keyed Try.underlying3
theorem zeroStand (w : World) : (zeroValue 107).run Try.prog w = .ok (.agg #[.int .i64 0, .int .i64 0, .int .i64 0, .string ⟨#[]⟩, .slice none 0 0]) w := by kernel_rfl

theorem wf64 {x : Int} (h : -9223372036854775808 ≤ x ∧ x ≤ 9223372036854775807) : (Lit.int .i64 x).wf = true := WalkArith.wf_i64 (by omega)

def nums (s : List BindD) : List Int := s.map (·.1)

set_option maxRecDepth 100000 in
set_option maxHeartbeats 2000000 in
theorem standings_any (s : List BindD) (v : Value) (w : World) (hl : s.length ≤ 1048576) (h : bindSh.slice.rep w (· < w.heap.size) [v] s) :
    Calls Try.prog 46 #[v] w fun e w' => e = .returned (.map (some w.heap.size)) ∧ Below w.heap.size w w' ∧ ∃ D, w'.ownsMap Try.prog 3 standElem w.heap.size s.length D ∧ Keys D (once [] (nums s)) := by
  obtain ⟨a, cap, css, rfl, hcap, hmax, hrow, hk⟩ := binds_open h
  have HR : Hid (RowAt w (· < w.heap.size) 5 a s.length css ∧ ∀ i (h : i < s.length), bindSh.rep w (· < w.heap.size) (css i) s[i]) := ⟨hrow, hk⟩
  clear hrow hk h hcap hmax
  have hmm := @run_makeMap Try.prog
  go_enter Try.func46, Try.ntmps46
  go_wp2
  go_loopw [11] (fun v11 wr => ∃ i : Nat, i ≤ s.length ∧ v11 = .int .i64 i ∧ Hid (Below w.heap.size w wr ∧ ∃ D, wr.ownsMap Try.prog 3 standElem w.heap.size i D ∧ Keys D (once [] (nums (s.take i))))) (fun v11 _ => s.length - (intOf v11).toNat)
  case atStart => exact ⟨0, Nat.zero_le _, rfl, (Below.refl _ _).alloc (Nat.le_refl _) _, .map [], World.ownsMap_made _ _ _ _, Keys.made⟩
  case round =>
    obtain ⟨i, hi, rfl, HI⟩ := hrel
    by_cases hlt : i < s.length
    · obtain ⟨b, o, rfl, hS, hc⟩ := HR.out.1 i hlt
      obtain ⟨x0, T, u0, u1, u2, u3, hT, hcs, f0, f1⟩ := bind_open (HR.out.2 i hlt)
      rw [hcs] at hc
      have hBW := HI.out.1
      have e0 := (hBW.cell (p := ⟨b, o + i * 5, none⟩) hS).trans (hc 0 _ rfl)
      have e1 := (hBW.cell (p := ⟨b, o + i * 5 + 1, none⟩) hS).trans (hc 1 _ rfl)
      have e2 := (hBW.cell (p := ⟨b, o + i * 5 + 2, none⟩) hS).trans (hc 2 _ rfl)
      have e3 := (hBW.cell (p := ⟨b, o + i * 5 + 3, none⟩) hS).trans (hc 3 _ rfl)
      have e4 := (hBW.cell (p := ⟨b, o + i * 5 + 4, none⟩) hS).trans (hc 4 _ rfl)
      have p0 := ty.tySh.one f1 u0 (by simp)
      have p1 := ty.tySh.one f1 u1 (by simp)
      have p2 := ty.tySh.one f1 u2 (by simp)
      have p3 := ty.tySh.one f1 u3 (by simp)
      have hx : (s[i]).1 = x0 := by rw [hT]
      have HN : Hid (nums (s.take (i + 1)) = nums (s.take i) ++ [x0]) := by
        show _ = _
        unfold nums
        rw [List.take_succ_eq_append_getElem hlt, List.map_append]
        simp [hx]
      obtain ⟨D, hown, hkeys⟩ := HI.out.2
      have hkey : keyOf Try.prog 3 (.int .i64 x0) = some (.int .i64 x0) := keyOf_int_mk Try.underlying3 (wf64 f0)
      obtain ⟨t0, t1, t2, tk, ta, tc, hTT, hu, -⟩ := ty.ty_open f1
      simp only [List.cons.injEq, and_true] at hu
      obtain ⟨rfl, rfl, rfl, rfl⟩ := hu
      have OW1 : Hid ((wr.alloc (.cells #[.int .i64 x0, .int .i64 t0, .int .i64 t1, .string t2, .slice ta tk.length tc] 67)).ownsMap Try.prog 3 standElem w.heap.size i D) := hown.alloc _
      obtain ⟨ve, pe, hrun, hve⟩ := OW1.out.look_ok intKey Try.underlying71 (zeroStand _) (zd := .agg []) (zp := []) rfl hkey
      obtain ⟨c0, c1, c2, c3, c4, rfl, q0, q1, q2, q3, q4⟩ := standElem_inv hve
      have HK : Hid (Keys D (once [] (nums (s.take i)))) := hkeys
      have HX : Hid (Tidy D ∧ IsMap D) := ⟨hown.tidy intKey, hown.isMap⟩
      have BW1 : Hid (Below w.heap.size w (wr.alloc (.cells #[.int .i64 x0, .int .i64 t0, .int .i64 t1, .string t2, .slice ta tk.length tc] 67))) := hBW.alloc hBW.size _
      rw [hkeys.has] at hrun
      clear hown hkeys hve hT hcs hc f1 hBW HI hTT hx
      have s0 := fun (a : Addr) (m : Mode) (w : World) => run_store Try.prog w a c0 m q0
      have s1 := fun (a : Addr) (m : Mode) (w : World) => run_store Try.prog w a c1 m q1
      have s2 := fun (a : Addr) (m : Mode) (w : World) => run_store Try.prog w a c2 m q2
      have s3 := fun (a : Addr) (m : Mode) (w : World) => run_store Try.prog w a c3 m q3
      have s4 := fun (a : Addr) (m : Mode) (w : World) => run_store Try.prog w a c4 m q4
      by_cases hm : x0 ∈ once [] (nums (s.take i))
      · rw [decide_eq_true hm] at hrun
        have HE : Hid (once [] (nums (s.take (i + 1))) = once [] (nums (s.take i))) := by show _ = _; rw [HN.out, once_snoc, if_pos hm]
        clear hm
        go_wp2
        go_round
        case rel => exact ⟨i + 1, by omega, by go_num, BW1.out.alloc BW1.out.size _, D, (OW1.out.alloc _).mono (by omega), by rw [HE.out]; exact HK.out⟩
        case measure => simp [intOf]; omega
      · rw [decide_eq_false hm] at hrun
        have HE : Hid (once [] (nums (s.take (i + 1))) = once [] (nums (s.take i)) ++ [x0]) := by show _ = _; rw [HN.out, once_snoc, if_neg hm]
        have HM : Hid (x0 ∉ once [] (nums (s.take i))) := hm
        clear hm
        go_wp2_with (first | (at_mapUpdate; refine wpList_mapUpdate_own _ rfl _ _ _ 71 rfl 3 107 intKey Try.underlying71 _ w.heap.size i _ rfl (OW1.out.alloc _) (by unfold maxLen; omega) _ _ _ rfl rfl hkey _ [] rfl ?_; intro w1 hown1 hgrow1) | go_in)
        go_round
        case rel => exact ⟨i + 1, by omega, by go_num, (BW1.out.alloc BW1.out.size _).grown hgrow1 (Nat.le_trans BW1.out.size (by simp)) (fun j hj => by cases hj; exact Nat.le_refl _), _, hown1, by rw [HE.out]; exact HK.out.put HX.out.1 HX.out.2 HM.out _⟩
        case measure => simp [intOf]; omega
    · obtain rfl : i = s.length := by omega
      go_wp2
      go_ret
      refine ⟨rfl, HI.out.1, ?_⟩
      have := HI.out.2
      rwa [List.take_length] at this

end Go.Proofs.Ytfekbchmgnpkaaa.bind

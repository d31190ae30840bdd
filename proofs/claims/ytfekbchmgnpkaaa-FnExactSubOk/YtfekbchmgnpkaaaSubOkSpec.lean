/-
  The model's l5At, l5Has and SubOk, at every argument; nothing that was there is turned.
-/
import Derived.Test.YtfekbchmgnpkaaaSubOkImpl2
import Derived.Test.YtfekbchmgnpkaaaHasSpec
import Derived.Deep.RegionWith
namespace Go.Proofs.Ytfekbchmgnpkaaa.bind
open Go.RowKit Go.Proofs.Ytfekbchmgnpkaaa.rose Go.Proofs.Ytfekbchmgnpkaaa.keys Go.Proofs.Ytfekbchmgnpkaaa
set_option linter.unusedVariables false
set_option linter.unusedSimpArgs false

/-- r is the first place of n, or -1. -/
def FirstAt (s : List BindD) (n r : Int) : Prop := (∃ k, ∃ h : k < s.length, r = (k : Nat) ∧ s[k].1 = n ∧ ∀ j (hj : j < k), s[j].1 ≠ n) ∨ (r = -1 ∧ ∀ j (hj : j < s.length), s[j].1 ≠ n)

set_option maxHeartbeats 1000000 in
theorem at_any (s : List BindD) (v : Value) (n : Int) (w : World) (hl : s.length ≤ 1048576) (h : bindSh.slice.rep w (· < w.heap.size) [v] s) :
    Calls Try.prog 43 #[v, .int .i64 n] w fun e w' => ∃ r, e = .returned (.int .i64 r) ∧ FirstAt s n r ∧ Below w.heap.size w w' := by
  obtain ⟨a, cap, css, rfl, hcap, hmax, hrow, hk⟩ := binds_open h
  have HR : Hid (RowAt w (· < w.heap.size) 5 a s.length css ∧ ∀ i (h : i < s.length), bindSh.rep w (· < w.heap.size) (css i) s[i]) := ⟨hrow, hk⟩
  clear hrow hk h hcap hmax
  go_enter Try.func43, Try.ntmps43
  go_wp2
  go_loopw [5] (fun v5 wr => ∃ i : Nat, i ≤ s.length ∧ v5 = .int .i64 i ∧ Hid (∀ j (hj : j < s.length), j < i → s[j].1 ≠ n) ∧ Hid (Below w.heap.size w wr)) (fun v5 _ => s.length - (intOf v5).toNat)
  case atStart => exact ⟨0, Nat.zero_le _, rfl, fun j _ hj => absurd hj (Nat.not_lt_zero _), Below.refl _ _⟩
  case round =>
    obtain ⟨i, hi, rfl, HA, HB⟩ := hrel
    by_cases hlt : i < s.length
    · obtain ⟨b, o, rfl, hS, hc⟩ := HR.out.1 i hlt
      obtain ⟨x0, T, u0, u1, u2, u3, hT, hcs, f0, f1⟩ := bind_open (HR.out.2 i hlt)
      rw [hcs] at hc
      have e0 := (HB.out.cell (p := ⟨b, o + i * 5, none⟩) hS).trans (hc 0 _ rfl)
      have hx : s[i].1 = x0 := by rw [hT]
      have HX : Hid (s[i].1 = x0) := hx
      clear hT hcs hc f1 hx
      by_cases hn : x0 = n
      · have hn' : (x0 == n) = true := by simp [hn]
        go_wp2
        go_ret
        exact ⟨_, rfl, .inl ⟨i, hlt, rfl, by rw [HX.out]; exact hn, fun j hj => HA.out j (by omega) hj⟩, HB.out⟩
      · have hn' : (x0 == n) = false := by simpa using hn
        have HA2 : Hid (∀ j (hj : j < s.length), j < i + 1 → s[j].1 ≠ n) := fun j hj h1 => by
          by_cases e : j = i
          · subst e; rw [HX.out]; exact hn
          · exact HA.out j hj (by omega)
        go_wp2
        go_round
        case rel => exact ⟨i + 1, by omega, by go_num, HA2, HB⟩
        case measure => simp [intOf]; omega
    · obtain rfl : i = s.length := by omega
      go_wp2
      go_ret
      exact ⟨_, rfl, .inr ⟨rfl, fun j hj => HA.out j hj hj⟩, HB.out⟩

/-- What the model has seen to be right of the first i Binds. -/
def Right (s : List BindD) (i : Nat) : Prop := ∀ j (hj : j < s.length), j < i → goodB s[j] = true ∧ (∀ k (hk : k < j), s[k].1 ≠ s[j].1) ∧ ∀ k (hk : k < s.length), hasB s[j].2 s[k].1 = false

theorem sub_true {s : List BindD} (h : Right s s.length) : subOkB s = true := by
  unfold subOkB
  rw [Bool.and_eq_true, Bool.and_eq_true]
  refine ⟨List.all_eq_true.2 fun b hb => ?_, decide_eq_true ?_, List.all_eq_true.2 fun x hx => ?_⟩
  · obtain ⟨j, hj, rfl⟩ := List.getElem_of_mem hb
    exact (h j hj hj).1
  · rw [List.nodup_iff_pairwise_ne, List.pairwise_iff_getElem]
    intro i j hi hj hij
    simp only [nums, List.getElem_map]
    rw [nums_length] at hi hj
    exact (h j hj hj).2.1 i hij
  · simp only [nums, List.mem_map] at hx
    obtain ⟨b, hb, rfl⟩ := hx
    obtain ⟨k, hk, rfl⟩ := List.getElem_of_mem hb
    simp only [Bool.not_eq_true', decide_eq_false_iff_not, vs, List.mem_flatMap, not_exists, not_and]
    intro c hc
    obtain ⟨j, hj, rfl⟩ := List.getElem_of_mem hc
    have := (h j hj hj).2.2 k hk
    simpa [hasB] using this
theorem sub_good {s : List BindD} {i : Nat} (hi : i < s.length) (h : goodB s[i] = false) : subOkB s = false := by
  unfold subOkB; rw [good_no hi h]; rfl
theorem sub_twice {s : List BindD} {k i : Nat} (hi : i < s.length) (hk : k < i) (h : s[k].1 = s[i].1) : subOkB s = false := by
  have : ¬ (nums s).Nodup := fun hn => by
    rw [List.nodup_iff_pairwise_ne, List.pairwise_iff_getElem] at hn
    have := hn k i (by rw [nums_length]; omega) (by rw [nums_length]; omega) hk
    simp only [nums, List.getElem_map] at this
    exact this h
  unfold subOkB; rw [decide_eq_false this]; simp
theorem sub_has {s : List BindD} {k i : Nat} (hi : i < s.length) (hk : k < s.length) (h : hasB s[i].2 s[k].1 = true) : subOkB s = false := by
  have : ((nums s).all fun x => !decide (x ∈ vs s)) = false := by
    rw [List.all_eq_false]
    refine ⟨s[k].1, List.mem_map.2 ⟨s[k], List.getElem_mem hk, rfl⟩, ?_⟩
    have h2 : s[k].1 ∈ vs s := List.mem_flatMap.2 ⟨s[i], List.getElem_mem hi, of_decide_eq_true h⟩
    simp [h2]
  unfold subOkB; rw [this]; simp

set_option maxRecDepth 100000 in
set_option maxHeartbeats 4000000 in
theorem specSubOk (s : List BindD) (v : Value) (w : World) (hw : s.length + wts s ≤ 1048576) (h : bindSh.slice.rep w (· < w.heap.size) [v] s) :
    Calls Try.prog 17 #[v] w fun e w' => e = .returned (.bool (subOkB s)) ∧ Below w.heap.size w w' := by
  have hrp := h
  obtain ⟨a, cap, css, rfl, hcap, hmax, hrow, hk⟩ := binds_open h
  have HR : Hid (RowAt w (· < w.heap.size) 5 a s.length css ∧ ∀ i (h : i < s.length), bindSh.rep w (· < w.heap.size) (css i) s[i]) := ⟨hrow, hk⟩
  have SL : Hid (∀ w' : World, Below w.heap.size w w' → bindSh.slice.rep w' (· < w'.heap.size) [.slice a s.length cap] s) := fun w' hb => bindSh.slice.mono (bindSh.slice.below hrp hb) fun b hlt => Nat.lt_of_lt_of_le hlt hb.size
  clear hrow hk h hcap hmax hrp
  have hls : s.length ≤ 1048576 := by omega
  obtain ⟨q, hq⟩ : ∃ q, q = subOkB s := ⟨_, rfl⟩
  have HQ : Hid (q = subOkB s) := hq
  rw [← hq]
  clear hq
  go_enter Try.func17, Try.ntmps17
  go_wp2
  go_loopw [3] (fun v3 wr => ∃ i : Nat, i ≤ s.length ∧ v3 = .int .i64 i ∧ Hid (Right s i) ∧ Hid (Below w.heap.size w wr)) (fun v3 _ => s.length - (intOf v3).toNat)
  case atStart => exact ⟨0, Nat.zero_le _, rfl, fun j _ hj => absurd hj (Nat.not_lt_zero _), Below.refl _ _⟩
  case round =>
    obtain ⟨i, hi, rfl, HA, HB⟩ := hrel
    by_cases hlt : i < s.length
    · obtain ⟨b, o, rfl, hS, hc⟩ := HR.out.1 i hlt
      obtain ⟨x0, T, u0, u1, u2, u3, hT, hcs, f0, f1⟩ := bind_open (HR.out.2 i hlt)
      rw [hcs] at hc
      have CE : Hid (∀ wk : World, Below w.heap.size w wk → ∀ (q : Nat) v, [Value.int .i64 x0, u0, u1, u2, u3][q]? = some v → wk.cell? ⟨b, o + i * 5 + q, none⟩ = some v) := fun wk hb q v hq => (hb.cell (p := ⟨b, o + i * 5 + q, none⟩) hS).trans (hc q v hq)
      have hwT : ty.wt T ≤ 1048576 := by
        have h1 := wt_mem (List.getElem_mem hlt)
        rw [hT] at h1
        simp [wt] at h1
        omega
      have HX : Hid (goodB s[i] = (decide (0 ≤ x0) && ty.tyOkB T)) := by show _ = _; rw [hT]; rfl
      have HN : Hid (s[i].1 = x0 ∧ s[i].2 = T) := by show _ ∧ _; rw [hT]; exact ⟨rfl, rfl⟩
      have AT : Hid (∀ w' : World, Below w.heap.size w w' → ty.tySh.rep w' (· < w'.heap.size) [u0, u1, u2, u3] T) := fun w' hb => ty.tySh.mono (ty.tySh.below f1 hb) fun b hlt => Nat.lt_of_lt_of_le hlt hb.size
      clear hT hcs hc f1
      have e0 : wr.cell? ⟨b, o + i * 5, none⟩ = _ := CE.out wr HB.out 0 _ rfl
      by_cases hx : x0 < 0
      · have hq2 : Hid (q = false) := by show _ = _; rw [HQ.out, sub_good hlt (by rw [HX.out, decide_eq_false (by omega)]; rfl)]
        go_wp2
        go_ret
        exact ⟨ret_bool hq2.out.symm, HB.out⟩
      · have hx' : 0 ≤ x0 := by omega
        go_wp2_with fail
        refine (at_any s _ x0 _ hls (SL.out _ HB.out)).mono ?_
        rintro e w2 ⟨r, rfl, hr, hb⟩
        have B2 : Hid (Below w.heap.size w w2) := HB.out.trans (hb.mono HB.out.size)
        clear hb e0
        by_cases hri : r = (i : Nat)
        · have hF : Hid (∀ k (hk : k < i), s[k].1 ≠ s[i].1) := by
            rcases hr with ⟨k, hk, h1, h2, h3⟩ | ⟨h1, _⟩
            · have : k = i := by omega
              subst this
              rw [HN.out.1]; exact h3
            · omega
          clear hr
          subst hri
          have e1 : w2.cell? ⟨b, o + i * 5 + 1, none⟩ = _ := CE.out w2 B2.out 1 _ rfl
          have e2 : w2.cell? ⟨b, o + i * 5 + 2, none⟩ = _ := CE.out w2 B2.out 2 _ rfl
          have e3 : w2.cell? ⟨b, o + i * 5 + 3, none⟩ = _ := CE.out w2 B2.out 3 _ rfl
          have e4 : w2.cell? ⟨b, o + i * 5 + 4, none⟩ = _ := CE.out w2 B2.out 4 _ rfl
          go_wp2_with fail
          refine (ty.specTyOk T _ _ hwT (AT.out _ B2.out)).mono ?_
          rintro e w3 ⟨rfl, hb⟩
          have B3 : Hid (Below w.heap.size w w3) := B2.out.trans (hb.mono B2.out.size)
          clear hb e1 e2 e3 e4 B2 HB
          by_cases hok : ty.tyOkB T = true
          · rw [hok]
            have hG : Hid (goodB s[i] = true) := by show _ = _; rw [HX.out, hok, decide_eq_true hx']; rfl
            clear HX hok
            go_wp2
            go_loopw [4] (fun v4 wi => ∃ k : Nat, k ≤ s.length ∧ v4 = .int .i64 k ∧ Hid (∀ j (hj : j < s.length), j < k → hasB T s[j].1 = false) ∧ Hid (Below w.heap.size w wi)) (fun v4 _ => s.length - (intOf v4).toNat)
            case atStart => exact ⟨0, Nat.zero_le _, rfl, fun j _ hj => absurd hj (Nat.not_lt_zero _), B3⟩
            case round =>
              obtain ⟨k, hk, rfl, HAk, HBk⟩ := hrel
              rename World => wi
              by_cases hlk : k < s.length
              · obtain ⟨b', o', e, hSk, hck⟩ := HR.out.1 k hlk
                cases e
                obtain ⟨y0, Tk, z0, z1, z2, z3, hTk, hcsk, -, -⟩ := bind_open (HR.out.2 k hlk)
                rw [hcsk] at hck
                have g0 := (HBk.out.cell (p := ⟨b, o + k * 5, none⟩) hSk).trans (hck 0 _ rfl)
                have HNk : Hid (s[k].1 = y0) := by show _ = _; rw [hTk]
                have e1 : wi.cell? ⟨b, o + i * 5 + 1, none⟩ = _ := CE.out wi HBk.out 1 _ rfl
                have e2 : wi.cell? ⟨b, o + i * 5 + 2, none⟩ = _ := CE.out wi HBk.out 2 _ rfl
                have e3 : wi.cell? ⟨b, o + i * 5 + 3, none⟩ = _ := CE.out wi HBk.out 3 _ rfl
                have e4 : wi.cell? ⟨b, o + i * 5 + 4, none⟩ = _ := CE.out wi HBk.out 4 _ rfl
                clear hTk hcsk hck
                have hcall := has_any T _ wi.drew y0 hwT (AT.out _ HBk.out.drew)
                by_cases hh : hasB T y0 = true
                · rw [hh] at hcall
                  have hq2 : Hid (q = false) := by show _ = _; rw [HQ.out, sub_has hlt hlk (by rw [HN.out.2, HNk.out]; exact hh)]
                  clear hh
                  go_wp2
                  go_region_with (go_at_call 44; refine hcall.mono ?_; rintro e w5 ⟨rfl, hb5⟩)
                  all_goals
                    have B5 : Hid (Below w.heap.size w w5) := HBk.out.drew.trans (hb5.mono HBk.out.size)
                    clear hb5 hcall e1 e2 e3 e4 g0
                    go_wp2
                    go_ret
                    exact ⟨ret_bool hq2.out.symm, B5.out⟩
                · have hh' : hasB T y0 = false := by simpa using hh
                  rw [hh'] at hcall
                  have HA2 : Hid (∀ j (hj : j < s.length), j < k + 1 → hasB T s[j].1 = false) := fun j hj h1 => by
                    by_cases e : j = k
                    · subst e; rw [HNk.out]; exact hh'
                    · exact HAk.out j hj (by omega)
                  clear hh hh'
                  go_wp2
                  go_region_with (go_at_call 44; refine hcall.mono ?_; rintro e w5 ⟨rfl, hb5⟩)
                  all_goals
                    have B5 : Hid (Below w.heap.size w w5) := HBk.out.drew.trans (hb5.mono HBk.out.size)
                    clear hb5 hcall e1 e2 e3 e4 g0
                    go_wp2
                    go_round
                    case rel => exact ⟨k + 1, by omega, by go_num, HA2, B5⟩
                    case measure => simp [intOf]; omega
              · obtain rfl : k = s.length := by omega
                have HA2 : Hid (Right s (i + 1)) := fun j hj h1 => by
                  by_cases e : j = i
                  · subst e
                    exact ⟨hG.out, hF.out, fun k hk => by rw [HN.out.2]; exact HAk.out k hk hk⟩
                  · exact HA.out j hj (by omega)
                go_wp2
                go_round
                case rel => exact ⟨i + 1, by omega, by go_num, HA2, HBk⟩
                case measure => simp [intOf]; omega
          · have hok' : ty.tyOkB T = false := by simpa using hok
            rw [hok']
            have hq2 : Hid (q = false) := by show _ = _; rw [HQ.out, sub_good hlt (by rw [HX.out, hok']; simp)]
            go_wp2
            go_ret
            exact ⟨ret_bool hq2.out.symm, B3.out⟩
        · have hq2 : Hid (q = false) := by
            show _ = _
            rw [HQ.out]
            rcases hr with ⟨k, hk, h1, h2, h3⟩ | ⟨_, h1⟩
            · have hki : k < i := by
                rcases Nat.lt_trichotomy k i with h | h | h
                · exact h
                · exact absurd (by rw [h1, h]) hri
                · exact absurd HN.out.1 (h3 i h)
              exact sub_twice hlt hki (by rw [h2, HN.out.1])
            · exact absurd HN.out.1 (h1 i hlt)
          clear hr
          have hri' : (r == ((i : Nat) : Int)) = false := by simpa using hri
          go_wp2
          go_ret
          exact ⟨ret_bool hq2.out.symm, B2.out⟩
    · obtain rfl : i = s.length := by omega
      have hq2 : Hid (q = true) := by show _ = _; rw [HQ.out, sub_true HA.out]
      go_wp2
      go_ret
      exact ⟨ret_bool hq2.out.symm, HB.out⟩

end Go.Proofs.Ytfekbchmgnpkaaa.bind

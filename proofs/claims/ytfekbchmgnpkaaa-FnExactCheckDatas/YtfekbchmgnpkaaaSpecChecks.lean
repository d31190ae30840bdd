/-
  The model's l6Data, l6Names, l6All and CheckDatas, at every list of datas; nothing that was there is turned.
-/
import Derived.Test.YtfekbchmgnpkaaaChecks
import Derived.Test.YtfekbchmgnpkaaaSpecConOf
import Derived.WalkSmall
namespace Go.Proofs.Ytfekbchmgnpkaaa.data
open Go.RowKit Go.Proofs.Ytfekbchmgnpkaaa.rose Go.Proofs.Ytfekbchmgnpkaaa
set_option linter.unusedVariables false
set_option linter.unusedSimpArgs false

theorem ret_boolD {a b : Bool} (h : a = b) : Ending.returned (.bool a) = Ending.returned (.bool b) := by rw [h]

/-- What l6Data tells: the first data of that name. -/
def FirstD (ks : List DataD) (s : ByteArray) (r : Int) : Prop := (∃ (i : Nat) (hi : i < ks.length), r = i ∧ namedD s ks[i] = true ∧ ∀ j (hj : j < i), namedD s ks[j] = false) ∨ (r = -1 ∧ ∀ d ∈ ks, namedD s d = false)

set_option maxRecDepth 100000 in
set_option maxHeartbeats 1000000 in
theorem dataAt_any (ks : List DataD) (v : Value) (s : ByteArray) (w : World) (h : dataSh.slice.rep w (· < w.heap.size) [v] ks) :
    Calls Try.prog 60 #[v, .string s] w fun e w' => ∃ r : Int, e = .returned (.int .i64 r) ∧ FirstD ks s r ∧ Below w.heap.size w w' := by
  obtain ⟨a, cap, css, rfl, hcap, hmax, hrow, hk⟩ := datas_open h
  have hmx : (ks.length : Int) ≤ 9223372036854775807 := by unfold maxLen at hmax; omega
  clear h hcap hmax
  have HR : Hid (RowAt w (· < w.heap.size) 3 a ks.length css ∧ ∀ i (h : i < ks.length), dataSh.rep w (· < w.heap.size) (css i) ks[i]) := ⟨hrow, hk⟩
  clear hrow hk
  go_enter Try.func60, Try.ntmps60
  go_wp2
  go_loopw [5] (fun v5 wr => ∃ i : Nat, i ≤ ks.length ∧ v5 = .int .i64 i ∧ Hid (∀ j (hj : j < ks.length), j < i → namedD s ks[j] = false) ∧ wr = w) (fun v5 _ => ks.length - (intOf v5).toNat)
  case atStart => exact ⟨0, Nat.zero_le _, rfl, fun j _ hj => absurd hj (Nat.not_lt_zero _), rfl⟩
  case round =>
    obtain ⟨i, hi, rfl, HA, rfl⟩ := hrel
    by_cases hlt : i < ks.length
    · obtain ⟨b, o, rfl, hS, hc⟩ := HR.out.1 i hlt
      obtain ⟨x0, x1, x2, a2, c2, hT, hcs, f0, f1, f2⟩ := data_open (HR.out.2 i hlt)
      rw [hcs] at hc
      have e0 : World.cell? _ ⟨b, o + i * 3, none⟩ = some (.string x0) := hc 0 _ rfl
      have HN : Hid (namedD s ks[i] = (x0.toList == s.toList)) := by show _ = _; rw [hT]; rfl
      clear f2 hcs hc hT
      by_cases hn : (x0.toList == s.toList) = true
      · go_wp2
        go_ret
        exact ⟨i, rfl, .inl ⟨i, hlt, rfl, by rw [HN.out]; exact hn, fun j hj => HA.out j (by omega) hj⟩, Below.refl _ _⟩
      · have hn' : (x0.toList == s.toList) = false := by simpa using hn
        have HA2 : Hid (∀ j (hj : j < ks.length), j < i + 1 → namedD s ks[j] = false) := fun j hj h1 => by
          by_cases e : j = i
          · subst e; rw [HN.out]; exact hn'
          · exact HA.out j hj (by omega)
        go_wp2
        go_round
        case rel => exact ⟨i + 1, by omega, by go_num, HA2, by first | rfl | trivial⟩
        case measure => simp [intOf]; omega
    · obtain rfl : i = ks.length := by omega
      go_wp2
      go_ret
      exact ⟨-1, rfl, .inr ⟨rfl, fun d hd => by obtain ⟨j, hj, rfl⟩ := List.getElem_of_mem hd; exact HA.out j hj hj⟩, Below.refl _ _⟩

/-- .. of a list, all that is within. -/
def allB (ks : List DataD) (many : Bool) (ts : List ty.TyD) : Bool := (withS ts).all (okN ks many)

theorem allB_take {ks : List DataD} {many : Bool} {ts : List ty.TyD} {i : Nat} (h : i < ts.length) : allB ks many (ts.take (i + 1)) = (allB ks many (ts.take i) && (withT ts[i]).all (okN ks many)) := by
  unfold allB; rw [withS_take h, List.all_append]
theorem allB_no {ks : List DataD} {many : Bool} {ts : List ty.TyD} {i : Nat} (h : i < ts.length) (hn : (withT ts[i]).all (okN ks many) = false) : allB ks many ts = false := by
  unfold allB
  rw [List.all_eq_false] at hn ⊢
  obtain ⟨y, hy, hn⟩ := hn
  exact ⟨y, mem_withS.2 ⟨_, List.getElem_mem h, hy⟩, hn⟩

def NamesSays (ks : List DataD) (many : Bool) (T : ty.TyD) : Prop := ∀ cs w v, ty.wt T ≤ 1048576 → dataSh.slice.rep w (· < w.heap.size) [v] ks → ty.tySh.rep w (· < w.heap.size) cs T →
  Calls Try.prog 84 #[v, .agg cs.toArray, .bool many] w fun e w' => e = .returned (.bool ((withT T).all (okN ks many))) ∧ Below w.heap.size w w'

set_option maxRecDepth 100000 in
set_option maxHeartbeats 4000000 in
theorem names_any (ks : List DataD) (many : Bool) (T : ty.TyD) : NamesSays ks many T := by
  induction T using ind with
  | h x ts ih =>
    intro cs w v hw hL h
    obtain ⟨op, m, s, ts', a, cap, hT, rfl, f0, f1, f2, fk⟩ := ty.ty_open h
    cases hT
    obtain ⟨a', cap', css, e, -, hmax, hrow, hk⟩ := ty.tys_open fk
    cases e
    clear h
    have hle : ts.length + ty.wts ts ≤ 1048576 := by simp [ty.wt] at hw; omega
    have IH : Hid _ := ih
    have HR : Hid (RowAt w (· < w.heap.size) 4 a ts.length css ∧ ∀ i (h : i < ts.length), ty.tySh.rep w (· < w.heap.size) (css i) ts[i]) := ⟨hrow, hk⟩
    have SL : Hid (∀ w' : World, Below w.heap.size w w' → dataSh.slice.rep w' (· < w'.heap.size) [v] ks) := fun w' hb => dataSh.slice.mono (dataSh.slice.below hL hb) fun b hlt => Nat.lt_of_lt_of_le hlt hb.size
    obtain ⟨va, vc, vcs, rfl, vcap, vmax, vrow, vk⟩ := datas_open hL
    have VR : Hid (RowAt w (· < w.heap.size) 3 va ks.length vcs ∧ ∀ i (h : i < ks.length), dataSh.rep w (· < w.heap.size) (vcs i) ks[i]) := ⟨vrow, vk⟩
    have hkm : (ks.length : Int) ≤ 9223372036854775807 := by unfold maxLen at vmax; omega
    clear ih hrow hk hmax hw fk hL vmax vrow vk vcap
    obtain ⟨q, hq⟩ : ∃ q, q = (withT (.mk (op, m, s) ts)).all (okN ks many) := ⟨_, rfl⟩
    have HQ : Hid (q = (okN ks many (.mk (op, m, s) ts) && allB ks many ts)) := by show _ = _; rw [hq, withT_eq]; rfl
    rw [← hq]
    clear hq
    go_enter Try.func84, Try.ntmps84
    go_wp2
    have T0 : Hid (∀ (i : Nat) u, [Value.int .i64 op, .int .i64 m, .string s, .slice a ts.length cap][i]? = some u → (w.alloc (.cells #[.int .i64 op, .int .i64 m, .string s, .slice a ts.length cap] 29)).cell? ⟨w.heap.size, i, none⟩ = some u) := fun i u hu => by
      match i, hu with
      | 0, hu | 1, hu | 2, hu | 3, hu => simp at hu; subst hu; simp
      | _ + 4, hu => simp at hu
    have B0 : Hid (Below w.heap.size w (w.alloc (.cells #[.int .i64 op, .int .i64 m, .string s, .slice a ts.length cap] 29))) := (Below.refl _ _).alloc (Nat.le_refl _) _
    have Z0 : Hid ((w.alloc (.cells #[.int .i64 op, .int .i64 m, .string s, .slice a ts.length cap] 29)).heap.size = w.heap.size + 1) := by show _ = _; simp
    generalize w.alloc (.cells #[.int .i64 op, .int .i64 m, .string s, .slice a ts.length cap] 29) = w0 at T0 B0 Z0 ⊢
    go_loopw [7] (fun v7 wr => ∃ i : Nat, i ≤ ts.length ∧ v7 = .int .i64 i ∧ Hid (allB ks many (ts.take i) = true) ∧ Hid (Below w0.heap.size w0 wr)) (fun v7 _ => ts.length - (intOf v7).toNat)
    case atStart => exact ⟨0, Nat.zero_le _, rfl, by show _ = _; simp [allB, withS], Below.refl _ _⟩
    case round =>
      obtain ⟨i, hi, rfl, HA, HB⟩ := hrel
      have c3 : wr.cell? ⟨w.heap.size, 3, none⟩ = some (.slice a ts.length cap) := (HB.out.cell (p := ⟨w.heap.size, 3, none⟩) (by simp [Z0.out])).trans (T0.out 3 _ rfl)
      have BW : Hid (Below w.heap.size w wr) := B0.out.trans (HB.out.mono (by rw [Z0.out]; omega))
      by_cases hlt : i < ts.length
      · obtain ⟨b, o, rfl, hS, hc⟩ := HR.out.1 i hlt
        have hrep := HR.out.2 i hlt
        obtain ⟨v0, v1, v2, v3, hcs, d0, d1, d2, d3⟩ := ty.ty_cells hrep hc
        have e0 := (BW.out.cell (p := ⟨b, o + i * 4, none⟩) hS).trans d0
        have e1 := (BW.out.cell (p := ⟨b, o + i * 4 + 1, none⟩) hS).trans d1
        have e2 := (BW.out.cell (p := ⟨b, o + i * 4 + 2, none⟩) hS).trans d2
        have e3 := (BW.out.cell (p := ⟨b, o + i * 4 + 3, none⟩) hS).trans d3
        rw [hcs] at hrep
        clear d0 d1 d2 d3 hc hcs
        have hR := ty.tySh.mono (ty.tySh.below hrep BW.out) (S' := (· < wr.heap.size)) (fun b hb => Nat.lt_of_lt_of_le hb BW.out.size)
        have hwi : ty.wt ts[i] ≤ 1048576 := by have := ty.wt_mem (List.getElem_mem hlt); omega
        have hcall := IH.out ts[i] (List.getElem_mem hlt) [v0, v1, v2, v3] wr _ hwi (SL.out _ BW.out) hR
        clear hR hrep
        by_cases hok : (withT ts[i]).all (okN ks many) = true
        · have HA2 : Hid (allB ks many (ts.take (i + 1)) = true) := by show _ = _; rw [allB_take hlt, HA.out, hok]; rfl
          rw [hok] at hcall
          clear hok
          go_wp2_with fail
          refine hcall.mono ?_
          clear hcall
          rintro e w1 ⟨rfl, hb⟩
          have B1 : Hid (Below w0.heap.size w0 w1) := HB.out.trans (hb.mono HB.out.size)
          clear hb HB c3 e0 e1 e2 e3 BW
          go_wp2
          go_round
          case rel => exact ⟨i + 1, by omega, by go_num, HA2, B1⟩
          case measure => simp [intOf]; omega
        · have hok' : (withT ts[i]).all (okN ks many) = false := by simpa using hok
          have hq2 : Hid (q = false) := by show _ = _; rw [HQ.out, allB_no hlt hok']; simp
          rw [hok'] at hcall
          clear hok hok'
          go_wp2_with fail
          refine hcall.mono ?_
          clear hcall
          rintro e w1 ⟨rfl, hb⟩
          have B1 : Hid (Below w.heap.size w w1) := BW.out.trans (hb.mono BW.out.size)
          clear hb HB c3 e0 e1 e2 e3 BW
          go_wp2
          go_ret
          exact ⟨ret_boolD hq2.out.symm, B1.out⟩
      · obtain rfl : i = ts.length := by omega
        have HQ2 : Hid (q = okN ks many (.mk (op, m, s) ts)) := by
          have := HA.out
          rw [List.take_length] at this
          show _ = _; rw [HQ.out, this]; simp
        have c0 : wr.cell? ⟨w.heap.size, 0, none⟩ = some (.int .i64 op) := (HB.out.cell (p := ⟨w.heap.size, 0, none⟩) (by simp [Z0.out])).trans (T0.out 0 _ rfl)
        have c2 : wr.cell? ⟨w.heap.size, 2, none⟩ = some (.string s) := (HB.out.cell (p := ⟨w.heap.size, 2, none⟩) (by simp [Z0.out])).trans (T0.out 2 _ rfl)
        have ZW : Hid (w.heap.size < wr.heap.size) := by have := HB.out.size; rw [Z0.out] at this; show _ < _; omega
        by_cases h4 : op = 4
        · subst h4
          go_wp2_with fail
          refine (dataAt_any ks _ s _ (SL.out _ BW.out)).mono ?_
          rintro e w1 ⟨r, rfl, hF, hb⟩
          have B1 : Hid (Below w.heap.size w w1) := BW.out.trans (hb.mono BW.out.size)
          have g3 : w1.cell? ⟨w.heap.size, 3, none⟩ = some (.slice a ts.length cap) := (hb.cell (p := ⟨w.heap.size, 3, none⟩) ZW.out).trans c3
          clear hb c0 c2 c3 HB BW
          rcases hF with ⟨i, hi, rfl, hn, hfst⟩ | ⟨rfl, hno⟩
          · obtain ⟨b, o, rfl, hS, hc⟩ := VR.out.1 i hi
            obtain ⟨y0, y1, y2, a2, cc2, hT, hcs, g0, g1, g2⟩ := data_open (VR.out.2 i hi)
            rw [hcs] at hc
            have e1 := (B1.out.cell (p := ⟨b, o + i * 3 + 1, none⟩) hS).trans (hc 1 _ rfl)
            have HV : Hid (q = (!many || decide (y1 = (ts.length : Int)))) := by
              show _ = _
              rw [HQ2.out, okN_some (t := .mk (4, m, s) ts) rfl (find_data hi hn hfst), hT]
              rfl
            clear hcs hc hT g2 hn hfst
            have hir : (0 : Int) ≤ (i : Nat) := by omega
            cases many
            · go_wp2
              go_quiet (fail)
              go_wp2
              go_ret
              exact ⟨ret_boolD (by rw [HV.out]; rfl), below_drewN B1.out _⟩
            · go_wp2
              go_quiet (fail)
              go_wp2
              go_ret
              refine ⟨ret_boolD ?_, below_drewN B1.out _⟩
              rw [HV.out]
              by_cases e : y1 = (ts.length : Nat)
              · simp [e]
              · simp [e]
          · have HV : Hid (q = false) := by
              show _ = _
              rw [HQ2.out, okN_none (t := .mk (4, m, s) ts) rfl (find_nodata hno)]
            go_wp2
            go_quiet (fail)
            go_wp2
            go_ret
            exact ⟨ret_boolD HV.out.symm, below_drewN B1.out _⟩
        · have h4' : (op == 4) = false := by simpa using h4
          have HV : Hid (q = true) := by show _ = _; rw [HQ2.out, okN_not (t := .mk (op, m, s) ts) h4]
          go_wp2
          go_ret
          exact ⟨ret_boolD HV.out.symm, BW.out⟩

end Go.Proofs.Ytfekbchmgnpkaaa.data

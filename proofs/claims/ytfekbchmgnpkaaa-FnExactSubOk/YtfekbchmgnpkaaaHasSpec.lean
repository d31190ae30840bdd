/-
  The model's l5Has, at every argument: whether a var is in a type; nothing that was there is turned.
-/
import Derived.Test.YtfekbchmgnpkaaaTyAll
import Derived.Deep.RegionWith
namespace Go.Proofs.Ytfekbchmgnpkaaa.bind
open Go.RowKit Go.Proofs.Ytfekbchmgnpkaaa.rose Go.Proofs.Ytfekbchmgnpkaaa
set_option linter.unusedVariables false
set_option linter.unusedSimpArgs false

theorem ret_boolH {a b : Bool} (h : a = b) : Ending.returned (.bool a) = Ending.returned (.bool b) := by rw [h]

def hasB (T : ty.TyD) (n : Int) : Bool := decide (n ∈ ty.varsL (ty.allT T))
def hasS (ks : List ty.TyD) (n : Int) : Bool := ks.any fun k => hasB k n

theorem mem_varsL {l : List ty.TyD} {n : Int} : n ∈ ty.varsL l ↔ ∃ t ∈ l, t.x.1 = 2 ∧ t.x.2.1 = n := by
  simp [ty.varsL, and_assoc]
theorem mem_allS {ks : List ty.TyD} {t : ty.TyD} : t ∈ ty.allS ks ↔ ∃ k ∈ ks, t ∈ ty.allT k := by
  induction ks with
  | nil => simp [ty.allS]
  | cons k ks ih => simp [ty.allS, ih, or_comm]
theorem hasB_mk (op m : Int) (s : ByteArray) (ks : List ty.TyD) (n : Int) : hasB (.mk (op, m, s) ks) n = (decide (op = 2 ∧ m = n) || hasS ks n) := by
  have : n ∈ ty.varsL (ty.allT (.mk (op, m, s) ks)) ↔ (op = 2 ∧ m = n) ∨ ∃ k ∈ ks, n ∈ ty.varsL (ty.allT k) := by
    rw [mem_varsL]
    simp only [ty.allT, List.mem_cons]
    constructor
    · rintro ⟨t, rfl | ht, h⟩
      · exact Or.inl h
      · obtain ⟨k, hk, ht⟩ := mem_allS.1 ht
        exact Or.inr ⟨k, hk, mem_varsL.2 ⟨t, ht, h⟩⟩
    · rintro (h | ⟨k, hk, h⟩)
      · exact ⟨_, Or.inl rfl, h⟩
      · obtain ⟨t, ht, h⟩ := mem_varsL.1 h
        exact ⟨t, Or.inr (mem_allS.2 ⟨k, hk, ht⟩), h⟩
  unfold hasB hasS
  rw [decide_eq_decide.2 this, Bool.decide_or]
  congr 1
  rw [Bool.eq_iff_iff]
  simp [hasB]

theorem hasS_take {ks : List ty.TyD} {i : Nat} {n : Int} (h : i < ks.length) : hasS (ks.take (i + 1)) n = (hasS (ks.take i) n || hasB ks[i] n) := by
  unfold hasS
  rw [List.take_succ_eq_append_getElem h, List.any_append]
  simp
theorem hasS_yes {ks : List ty.TyD} {i : Nat} {n : Int} (h : i < ks.length) (hk : hasB ks[i] n = true) : hasS ks n = true :=
  List.any_eq_true.2 ⟨ks[i], List.getElem_mem h, hk⟩

def HasSays (T : ty.TyD) : Prop := ∀ cs w (n : Int), ty.wt T ≤ 1048576 → ty.tySh.rep w (· < w.heap.size) cs T →
  Calls Try.prog 44 #[.agg cs.toArray, .int .i64 n] w fun e w' => e = .returned (.bool (hasB T n)) ∧ Below w.heap.size w w'

set_option maxHeartbeats 2000000 in
theorem has_any (T : ty.TyD) : HasSays T := by
  induction T using ind with
  | h x ks ih =>
    intro cs w n hw h
    obtain ⟨op, m, s, ks', a, cap, hT, rfl, f0, f1, f2, hk⟩ := ty.ty_open h
    cases hT
    clear h
    obtain ⟨a1, cap1, css, e, hcap, hmax, hrow, hk2⟩ := ty.tys_open hk
    cases e
    have hws : ty.wts ks ≤ 1048576 ∧ ks.length ≤ 1048576 := by simp [ty.wt] at hw; omega
    obtain ⟨hws, hkl⟩ := hws
    have IH : Hid (∀ k ∈ ks, HasSays k) := ih
    have HR : Hid (RowAt w (· < w.heap.size) 4 a ks.length css ∧ ∀ i (h : i < ks.length), ty.tySh.rep w (· < w.heap.size) (css i) ks[i]) := ⟨hrow, hk2⟩
    have HO : Hid (hasB (.mk (op, m, s) ks) n = (decide (op = 2 ∧ m = n) || hasS ks n)) := hasB_mk op m s ks n
    generalize hasB (.mk (op, m, s) ks) n = q at HO ⊢
    clear ih hrow hk2 hk hcap hmax hw f0 f1 f2
    by_cases hv : op = 2 ∧ m = n
    · have h1 : (op == 2) = true := by simp [hv.1]
      have h2 : (m == n) = true := by simp [hv.2]
      have hq : Hid (q = true) := by show _ = _; rw [HO.out, decide_eq_true hv]; rfl
      go_enter Try.func44, Try.ntmps44
      go_wp2
      go_ret
      exact ⟨ret_boolH hq.out.symm, (Below.refl _ _).alloc (Nat.le_refl _) _⟩
    · have hq0 : Hid (q = hasS ks n) := by show _ = _; rw [HO.out, decide_eq_false hv]; rfl
      clear HO
      go_enter Try.func44, Try.ntmps44
      by_cases h1 : op = 2
      · have h2' : (m == n) = false := by simp; exact fun e => hv ⟨h1, e⟩
        subst h1
        go_wp2
        have T3 : Hid ((w.alloc (.cells #[.int .i64 2, .int .i64 m, .string s, .slice a ks.length cap] 29)).cell? ⟨w.heap.size, 3, none⟩ = some (.slice a ks.length cap)) := by show _ = _; simp
        have B0 : Hid (Below w.heap.size w (w.alloc (.cells #[.int .i64 2, .int .i64 m, .string s, .slice a ks.length cap] 29))) := (Below.refl _ _).alloc (Nat.le_refl _) _
        have Z0 : Hid ((w.alloc (.cells #[.int .i64 2, .int .i64 m, .string s, .slice a ks.length cap] 29)).heap.size = w.heap.size + 1) := by show _ = _; simp
        generalize w.alloc (.cells #[.int .i64 2, .int .i64 m, .string s, .slice a ks.length cap] 29) = w0 at T3 B0 Z0 ⊢
        go_loopw [5] (fun v5 wr => ∃ i : Nat, i ≤ ks.length ∧ v5 = .int .i64 i ∧ Hid (hasS (ks.take i) n = false) ∧ Hid (Below w0.heap.size w0 wr)) (fun v5 _ => ks.length - (intOf v5).toNat)
        case atStart => exact ⟨0, Nat.zero_le _, rfl, by show _ = _; simp [hasS], Below.refl _ _⟩
        case round =>
          obtain ⟨i, hi, rfl, HA, HB⟩ := hrel
          have c4 : wr.cell? ⟨w.heap.size, 3, none⟩ = some (.slice a ks.length cap) := (HB.out.cell (p := ⟨w.heap.size, 3, none⟩) (by simp [Z0.out])).trans T3.out
          by_cases hlt : i < ks.length
          · obtain ⟨b, o, rfl, hS, hc⟩ := HR.out.1 i hlt
            have hrep := HR.out.2 i hlt
            have BW : Below w.heap.size w wr := B0.out.trans (HB.out.mono (by rw [Z0.out]; omega))
            obtain ⟨v0, v1, v2, v3, hcs, c0, c1, c2, c3⟩ := ty.ty_cells hrep hc
            have e0 := (BW.cell (p := ⟨b, o + i * 4, none⟩) hS).trans c0
            have e1 := (BW.cell (p := ⟨b, o + i * 4 + 1, none⟩) hS).trans c1
            have e2 := (BW.cell (p := ⟨b, o + i * 4 + 2, none⟩) hS).trans c2
            have e3 := (BW.cell (p := ⟨b, o + i * 4 + 3, none⟩) hS).trans c3
            rw [hcs] at hrep
            clear c0 c1 c2 c3 hc hcs
            have hR := ty.tySh.mono (ty.tySh.below hrep BW) (S' := (· < wr.heap.size)) (fun b hb => Nat.lt_of_lt_of_le hb BW.size)
            have hwi : ty.wt ks[i] ≤ 1048576 := by have := ty.wt_mem (List.getElem_mem hlt); omega
            have hcall := IH.out ks[i] (List.getElem_mem hlt) [v0, v1, v2, v3] wr n hwi hR
            clear hR hrep BW
            by_cases hok : hasB ks[i] n = true
            · have hq : Hid (q = true) := by show _ = _; rw [hq0.out, hasS_yes hlt hok]
              rw [hok] at hcall
              clear hok HA
              go_wp2_with fail
              refine hcall.mono ?_
              clear hcall
              rintro e w1 ⟨rfl, hb⟩
              have B1 : Hid (Below w0.heap.size w0 w1) := HB.out.trans (hb.mono HB.out.size)
              clear hb HB c4 e0 e1 e2 e3
              go_wp2
              go_ret
              exact ⟨ret_boolH hq.out.symm, B0.out.trans (B1.out.mono (by rw [Z0.out]; omega))⟩
            · have hok' : hasB ks[i] n = false := by simpa using hok
              have hA2 : Hid (hasS (ks.take (i + 1)) n = false) := by show _ = _; rw [hasS_take hlt, HA.out, hok']; rfl
              rw [hok'] at hcall
              clear hok hok' HA
              go_wp2_with fail
              refine hcall.mono ?_
              clear hcall
              rintro e w1 ⟨rfl, hb⟩
              have B1 : Hid (Below w0.heap.size w0 w1) := HB.out.trans (hb.mono HB.out.size)
              clear hb HB c4 e0 e1 e2 e3
              go_wp2
              go_round
              case rel => exact ⟨i + 1, by omega, by go_num, hA2, B1⟩
              case measure => simp [intOf]; omega
          · obtain rfl : i = ks.length := by omega
            have hq : Hid (q = false) := by
              have := HA.out
              rw [List.take_length] at this
              show _ = _; rw [hq0.out, this]
            have B1 : Hid (Below w.heap.size w wr) := B0.out.trans (HB.out.mono (by rw [Z0.out]; omega))
            go_wp2
            go_ret
            exact ⟨ret_boolH hq.out.symm, B1.out⟩
      · have h1' : (op == 2) = false := by simpa using h1
        go_wp2
        have T3 : Hid ((w.alloc (.cells #[.int .i64 op, .int .i64 m, .string s, .slice a ks.length cap] 29)).cell? ⟨w.heap.size, 3, none⟩ = some (.slice a ks.length cap)) := by show _ = _; simp
        have B0 : Hid (Below w.heap.size w (w.alloc (.cells #[.int .i64 op, .int .i64 m, .string s, .slice a ks.length cap] 29))) := (Below.refl _ _).alloc (Nat.le_refl _) _
        have Z0 : Hid ((w.alloc (.cells #[.int .i64 op, .int .i64 m, .string s, .slice a ks.length cap] 29)).heap.size = w.heap.size + 1) := by show _ = _; simp
        generalize w.alloc (.cells #[.int .i64 op, .int .i64 m, .string s, .slice a ks.length cap] 29) = w0 at T3 B0 Z0 ⊢
        go_loopw [5] (fun v5 wr => ∃ i : Nat, i ≤ ks.length ∧ v5 = .int .i64 i ∧ Hid (hasS (ks.take i) n = false) ∧ Hid (Below w0.heap.size w0 wr)) (fun v5 _ => ks.length - (intOf v5).toNat)
        case atStart => exact ⟨0, Nat.zero_le _, rfl, by show _ = _; simp [hasS], Below.refl _ _⟩
        case round =>
          obtain ⟨i, hi, rfl, HA, HB⟩ := hrel
          have c4 : wr.cell? ⟨w.heap.size, 3, none⟩ = some (.slice a ks.length cap) := (HB.out.cell (p := ⟨w.heap.size, 3, none⟩) (by simp [Z0.out])).trans T3.out
          by_cases hlt : i < ks.length
          · obtain ⟨b, o, rfl, hS, hc⟩ := HR.out.1 i hlt
            have hrep := HR.out.2 i hlt
            have BW : Below w.heap.size w wr := B0.out.trans (HB.out.mono (by rw [Z0.out]; omega))
            obtain ⟨v0, v1, v2, v3, hcs, c0, c1, c2, c3⟩ := ty.ty_cells hrep hc
            have e0 := (BW.cell (p := ⟨b, o + i * 4, none⟩) hS).trans c0
            have e1 := (BW.cell (p := ⟨b, o + i * 4 + 1, none⟩) hS).trans c1
            have e2 := (BW.cell (p := ⟨b, o + i * 4 + 2, none⟩) hS).trans c2
            have e3 := (BW.cell (p := ⟨b, o + i * 4 + 3, none⟩) hS).trans c3
            rw [hcs] at hrep
            clear c0 c1 c2 c3 hc hcs
            have hR := ty.tySh.mono (ty.tySh.below hrep BW) (S' := (· < wr.heap.size)) (fun b hb => Nat.lt_of_lt_of_le hb BW.size)
            have hwi : ty.wt ks[i] ≤ 1048576 := by have := ty.wt_mem (List.getElem_mem hlt); omega
            have hcall := IH.out ks[i] (List.getElem_mem hlt) [v0, v1, v2, v3] wr n hwi hR
            clear hR hrep BW
            by_cases hok : hasB ks[i] n = true
            · have hq : Hid (q = true) := by show _ = _; rw [hq0.out, hasS_yes hlt hok]
              rw [hok] at hcall
              clear hok HA
              go_wp2_with fail
              refine hcall.mono ?_
              clear hcall
              rintro e w1 ⟨rfl, hb⟩
              have B1 : Hid (Below w0.heap.size w0 w1) := HB.out.trans (hb.mono HB.out.size)
              clear hb HB c4 e0 e1 e2 e3
              go_wp2
              go_ret
              exact ⟨ret_boolH hq.out.symm, B0.out.trans (B1.out.mono (by rw [Z0.out]; omega))⟩
            · have hok' : hasB ks[i] n = false := by simpa using hok
              have hA2 : Hid (hasS (ks.take (i + 1)) n = false) := by show _ = _; rw [hasS_take hlt, HA.out, hok']; rfl
              rw [hok'] at hcall
              clear hok hok' HA
              go_wp2_with fail
              refine hcall.mono ?_
              clear hcall
              rintro e w1 ⟨rfl, hb⟩
              have B1 : Hid (Below w0.heap.size w0 w1) := HB.out.trans (hb.mono HB.out.size)
              clear hb HB c4 e0 e1 e2 e3
              go_wp2
              go_round
              case rel => exact ⟨i + 1, by omega, by go_num, hA2, B1⟩
              case measure => simp [intOf]; omega
          · obtain rfl : i = ks.length := by omega
            have hq : Hid (q = false) := by
              have := HA.out
              rw [List.take_length] at this
              show _ = _; rw [hq0.out, this]
            have B1 : Hid (Below w.heap.size w wr) := B0.out.trans (HB.out.mono (by rw [Z0.out]; omega))
            go_wp2
            go_ret
            exact ⟨ret_boolH hq.out.symm, B1.out⟩


end Go.Proofs.Ytfekbchmgnpkaaa.bind

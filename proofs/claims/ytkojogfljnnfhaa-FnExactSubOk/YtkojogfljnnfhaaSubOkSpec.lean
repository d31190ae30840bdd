/-
  The model's l5At, l5Has and SubOk, at every argument; nothing that was there is turned.
-/
import Derived.Test.YtkojogfljnnfhaaSubOkImpl
import Derived.Deep.RegionWith
namespace Go.Proofs.Ytkojogfljnnfhaa.bind
open Go.RowKit Go.Proofs.Ytkojogfljnnfhaa.rose Go.Proofs.Ytkojogfljnnfhaa.keys Go.Proofs.Ytkojogfljnnfhaa
set_option linter.unusedVariables false
set_option linter.unusedSimpArgs false

/-- r is the first place of n, or -1. -/
def FirstAt (s : List BindD) (n r : Int) : Prop := (∃ k, ∃ h : k < s.length, r = (k : Nat) ∧ s[k].1 = n ∧ ∀ j (hj : j < k), s[j].1 ≠ n) ∨ (r = -1 ∧ ∀ j (hj : j < s.length), s[j].1 ≠ n)

set_option maxHeartbeats 1000000 in
theorem at_any (s : List BindD) (v : Value) (n : Int) (w : World) (hl : s.length ≤ 1048576) (h : bindSh.slice.rep w (· < w.heap.size) [v] s) :
    Calls Try.prog 37 #[v, .int .i64 n] w fun e w' => ∃ r, e = .returned (.int .i64 r) ∧ FirstAt s n r ∧ Below w.heap.size w w' := by
  obtain ⟨a, cap, css, rfl, hcap, hmax, hrow, hk⟩ := binds_open h
  have HR : Hid (RowAt w (· < w.heap.size) 5 a s.length css ∧ ∀ i (h : i < s.length), bindSh.rep w (· < w.heap.size) (css i) s[i]) := ⟨hrow, hk⟩
  clear hrow hk h hcap hmax
  go_enter Try.func37, Try.ntmps37
  go_wp2
  go_loopw [5] (fun v5 wr => ∃ i : Nat, i ≤ s.length ∧ v5 = .int .i64 i ∧ Hid (∀ j (hj : j < s.length), j < i → s[j].1 ≠ n) ∧ Hid (Below w.heap.size w wr)) (fun v5 _ => s.length - (intOf v5).toNat)
  case atStart => exact ⟨0, Nat.zero_le _, rfl, fun j _ hj => absurd hj (Nat.not_lt_zero _), Below.refl _ _⟩
  case round =>
    obtain ⟨i, hi, rfl, HA, HB⟩ := hrel
    by_cases hlt : i < s.length
    · obtain ⟨b, o, rfl, hS, hc⟩ := HR.out.1 i hlt
      obtain ⟨x0, T, u0, u1, u2, u3, hT, hcs, f0, f1⟩ := bind_open (HR.out.2 i hlt)
      rw [hcs] at hc
      have e0 := (HB.out.cell (p := ⟨b, o + i * 5, none⟩) hS).trans (hc 0 _ rfl)
      have hx : s[i].1 = x0 := by rw [hT]
      have HX : Hid (s[i].1 = x0) := hx
      clear hT hcs hc f1 hx
      by_cases hn : x0 = n
      · have hn' : (x0 == n) = true := by simp [hn]
        go_wp2
        go_ret
        exact ⟨_, rfl, .inl ⟨i, hlt, rfl, by rw [HX.out]; exact hn, fun j hj => HA.out j (by omega) hj⟩, HB.out⟩
      · have hn' : (x0 == n) = false := by simpa using hn
        have HA2 : Hid (∀ j (hj : j < s.length), j < i + 1 → s[j].1 ≠ n) := fun j hj h1 => by
          by_cases e : j = i
          · subst e; rw [HX.out]; exact hn
          · exact HA.out j hj (by omega)
        go_wp2
        go_round
        case rel => exact ⟨i + 1, by omega, by go_num, HA2, HB⟩
        case measure => simp [intOf]; omega
    · obtain rfl : i = s.length := by omega
      go_wp2
      go_ret
      exact ⟨_, rfl, .inr ⟨rfl, fun j hj => HA.out j hj hj⟩, HB.out⟩

def hasB (T : ty.TyD) (n : Int) : Bool := decide (n ∈ ty.varsL (ty.allT T))
def hasS (ks : List ty.TyD) (n : Int) : Bool := ks.any fun k => hasB k n

theorem mem_varsL {l : List ty.TyD} {n : Int} : n ∈ ty.varsL l ↔ ∃ t ∈ l, t.x.1 = 2 ∧ t.x.2.1 = n := by
  simp [ty.varsL, and_assoc]
theorem mem_allS {ks : List ty.TyD} {t : ty.TyD} : t ∈ ty.allS ks ↔ ∃ k ∈ ks, t ∈ ty.allT k := by
  induction ks with
  | nil => simp [ty.allS]
  | cons k ks ih => simp [ty.allS, ih, or_comm]
theorem hasB_mk (op m : Int) (s : ByteArray) (ks : List ty.TyD) (n : Int) : hasB (.mk (op, m, s) ks) n = (decide (op = 2 ∧ m = n) || hasS ks n) := by
  have : n ∈ ty.varsL (ty.allT (.mk (op, m, s) ks)) ↔ (op = 2 ∧ m = n) ∨ ∃ k ∈ ks, n ∈ ty.varsL (ty.allT k) := by
    rw [mem_varsL]
    simp only [ty.allT, List.mem_cons]
    constructor
    · rintro ⟨t, rfl | ht, h⟩
      · exact Or.inl h
      · obtain ⟨k, hk, ht⟩ := mem_allS.1 ht
        exact Or.inr ⟨k, hk, mem_varsL.2 ⟨t, ht, h⟩⟩
    · rintro (h | ⟨k, hk, h⟩)
      · exact ⟨_, Or.inl rfl, h⟩
      · obtain ⟨t, ht, h⟩ := mem_varsL.1 h
        exact ⟨t, Or.inr (mem_allS.2 ⟨k, hk, ht⟩), h⟩
  unfold hasB hasS
  rw [decide_eq_decide.2 this, Bool.decide_or]
  congr 1
  rw [Bool.eq_iff_iff]
  simp [hasB]

theorem hasS_take {ks : List ty.TyD} {i : Nat} {n : Int} (h : i < ks.length) : hasS (ks.take (i + 1)) n = (hasS (ks.take i) n || hasB ks[i] n) := by
  unfold hasS
  rw [List.take_succ_eq_append_getElem h, List.any_append]
  simp
theorem hasS_yes {ks : List ty.TyD} {i : Nat} {n : Int} (h : i < ks.length) (hk : hasB ks[i] n = true) : hasS ks n = true :=
  List.any_eq_true.2 ⟨ks[i], List.getElem_mem h, hk⟩

def HasSays (T : ty.TyD) : Prop := ∀ cs w (n : Int), ty.wt T ≤ 1048576 → ty.tySh.rep w (· < w.heap.size) cs T →
  Calls Try.prog 38 #[.agg cs.toArray, .int .i64 n] w fun e w' => e = .returned (.bool (hasB T n)) ∧ Below w.heap.size w w'

set_option maxHeartbeats 2000000 in
theorem has_any (T : ty.TyD) : HasSays T := by
  induction T using ind with
  | h x ks ih =>
    intro cs w n hw h
    obtain ⟨op, m, s, ks', a, cap, hT, rfl, f0, f1, f2, hk⟩ := ty.ty_open h
    cases hT
    clear h
    obtain ⟨a1, cap1, css, e, hcap, hmax, hrow, hk2⟩ := ty.tys_open hk
    cases e
    have hws : ty.wts ks ≤ 1048576 ∧ ks.length ≤ 1048576 := by simp [ty.wt] at hw; omega
    obtain ⟨hws, hkl⟩ := hws
    have IH : Hid (∀ k ∈ ks, HasSays k) := ih
    have HR : Hid (RowAt w (· < w.heap.size) 4 a ks.length css ∧ ∀ i (h : i < ks.length), ty.tySh.rep w (· < w.heap.size) (css i) ks[i]) := ⟨hrow, hk2⟩
    have HO : Hid (hasB (.mk (op, m, s) ks) n = (decide (op = 2 ∧ m = n) || hasS ks n)) := hasB_mk op m s ks n
    generalize hasB (.mk (op, m, s) ks) n = q at HO ⊢
    clear ih hrow hk2 hk hcap hmax hw f0 f1 f2
    by_cases hv : op = 2 ∧ m = n
    · have h1 : (op == 2) = true := by simp [hv.1]
      have h2 : (m == n) = true := by simp [hv.2]
      have hq : Hid (q = true) := by show _ = _; rw [HO.out, decide_eq_true hv]; rfl
      go_enter Try.func38, Try.ntmps38
      go_wp2
      go_ret
      exact ⟨ret_bool hq.out.symm, (Below.refl _ _).alloc (Nat.le_refl _) _⟩
    · have hq0 : Hid (q = hasS ks n) := by show _ = _; rw [HO.out, decide_eq_false hv]; rfl
      clear HO
      go_enter Try.func38, Try.ntmps38
      by_cases h1 : op = 2
      · have h2' : (m == n) = false := by simp; exact fun e => hv ⟨h1, e⟩
        subst h1
        go_wp2
        have T3 : Hid ((w.alloc (.cells #[.int .i64 2, .int .i64 m, .string s, .slice a ks.length cap] 29)).cell? ⟨w.heap.size, 3, none⟩ = some (.slice a ks.length cap)) := by show _ = _; simp
        have B0 : Hid (Below w.heap.size w (w.alloc (.cells #[.int .i64 2, .int .i64 m, .string s, .slice a ks.length cap] 29))) := (Below.refl _ _).alloc (Nat.le_refl _) _
        have Z0 : Hid ((w.alloc (.cells #[.int .i64 2, .int .i64 m, .string s, .slice a ks.length cap] 29)).heap.size = w.heap.size + 1) := by show _ = _; simp
        generalize w.alloc (.cells #[.int .i64 2, .int .i64 m, .string s, .slice a ks.length cap] 29) = w0 at T3 B0 Z0 ⊢
        go_loopw [5] (fun v5 wr => ∃ i : Nat, i ≤ ks.length ∧ v5 = .int .i64 i ∧ Hid (hasS (ks.take i) n = false) ∧ Hid (Below w0.heap.size w0 wr)) (fun v5 _ => ks.length - (intOf v5).toNat)
        case atStart => exact ⟨0, Nat.zero_le _, rfl, by show _ = _; simp [hasS], Below.refl _ _⟩
        case round =>
          obtain ⟨i, hi, rfl, HA, HB⟩ := hrel
          have c4 : wr.cell? ⟨w.heap.size, 3, none⟩ = some (.slice a ks.length cap) := (HB.out.cell (p := ⟨w.heap.size, 3, none⟩) (by simp [Z0.out])).trans T3.out
          by_cases hlt : i < ks.length
          · obtain ⟨b, o, rfl, hS, hc⟩ := HR.out.1 i hlt
            have hrep := HR.out.2 i hlt
            have BW : Below w.heap.size w wr := B0.out.trans (HB.out.mono (by rw [Z0.out]; omega))
            obtain ⟨v0, v1, v2, v3, hcs, c0, c1, c2, c3⟩ := ty.ty_cells hrep hc
            have e0 := (BW.cell (p := ⟨b, o + i * 4, none⟩) hS).trans c0
            have e1 := (BW.cell (p := ⟨b, o + i * 4 + 1, none⟩) hS).trans c1
            have e2 := (BW.cell (p := ⟨b, o + i * 4 + 2, none⟩) hS).trans c2
            have e3 := (BW.cell (p := ⟨b, o + i * 4 + 3, none⟩) hS).trans c3
            rw [hcs] at hrep
            clear c0 c1 c2 c3 hc hcs
            have hR := ty.tySh.mono (ty.tySh.below hrep BW) (S' := (· < wr.heap.size)) (fun b hb => Nat.lt_of_lt_of_le hb BW.size)
            have hwi : ty.wt ks[i] ≤ 1048576 := by have := ty.wt_mem (List.getElem_mem hlt); omega
            have hcall := IH.out ks[i] (List.getElem_mem hlt) [v0, v1, v2, v3] wr n hwi hR
            clear hR hrep BW
            by_cases hok : hasB ks[i] n = true
            · have hq : Hid (q = true) := by show _ = _; rw [hq0.out, hasS_yes hlt hok]
              rw [hok] at hcall
              clear hok HA
              go_wp2_with fail
              refine hcall.mono ?_
              clear hcall
              rintro e w1 ⟨rfl, hb⟩
              have B1 : Hid (Below w0.heap.size w0 w1) := HB.out.trans (hb.mono HB.out.size)
              clear hb HB c4 e0 e1 e2 e3
              go_wp2
              go_ret
              exact ⟨ret_bool hq.out.symm, B0.out.trans (B1.out.mono (by rw [Z0.out]; omega))⟩
            · have hok' : hasB ks[i] n = false := by simpa using hok
              have hA2 : Hid (hasS (ks.take (i + 1)) n = false) := by show _ = _; rw [hasS_take hlt, HA.out, hok']; rfl
              rw [hok'] at hcall
              clear hok hok' HA
              go_wp2_with fail
              refine hcall.mono ?_
              clear hcall
              rintro e w1 ⟨rfl, hb⟩
              have B1 : Hid (Below w0.heap.size w0 w1) := HB.out.trans (hb.mono HB.out.size)
              clear hb HB c4 e0 e1 e2 e3
              go_wp2
              go_round
              case rel => exact ⟨i + 1, by omega, by go_num, hA2, B1⟩
              case measure => simp [intOf]; omega
          · obtain rfl : i = ks.length := by omega
            have hq : Hid (q = false) := by
              have := HA.out
              rw [List.take_length] at this
              show _ = _; rw [hq0.out, this]
            have B1 : Hid (Below w.heap.size w wr) := B0.out.trans (HB.out.mono (by rw [Z0.out]; omega))
            go_wp2
            go_ret
            exact ⟨ret_bool hq.out.symm, B1.out⟩
      · have h1' : (op == 2) = false := by simpa using h1
        go_wp2
        have T3 : Hid ((w.alloc (.cells #[.int .i64 op, .int .i64 m, .string s, .slice a ks.length cap] 29)).cell? ⟨w.heap.size, 3, none⟩ = some (.slice a ks.length cap)) := by show _ = _; simp
        have B0 : Hid (Below w.heap.size w (w.alloc (.cells #[.int .i64 op, .int .i64 m, .string s, .slice a ks.length cap] 29))) := (Below.refl _ _).alloc (Nat.le_refl _) _
        have Z0 : Hid ((w.alloc (.cells #[.int .i64 op, .int .i64 m, .string s, .slice a ks.length cap] 29)).heap.size = w.heap.size + 1) := by show _ = _; simp
        generalize w.alloc (.cells #[.int .i64 op, .int .i64 m, .string s, .slice a ks.length cap] 29) = w0 at T3 B0 Z0 ⊢
        go_loopw [5] (fun v5 wr => ∃ i : Nat, i ≤ ks.length ∧ v5 = .int .i64 i ∧ Hid (hasS (ks.take i) n = false) ∧ Hid (Below w0.heap.size w0 wr)) (fun v5 _ => ks.length - (intOf v5).toNat)
        case atStart => exact ⟨0, Nat.zero_le _, rfl, by show _ = _; simp [hasS], Below.refl _ _⟩
        case round =>
          obtain ⟨i, hi, rfl, HA, HB⟩ := hrel
          have c4 : wr.cell? ⟨w.heap.size, 3, none⟩ = some (.slice a ks.length cap) := (HB.out.cell (p := ⟨w.heap.size, 3, none⟩) (by simp [Z0.out])).trans T3.out
          by_cases hlt : i < ks.length
          · obtain ⟨b, o, rfl, hS, hc⟩ := HR.out.1 i hlt
            have hrep := HR.out.2 i hlt
            have BW : Below w.heap.size w wr := B0.out.trans (HB.out.mono (by rw [Z0.out]; omega))
            obtain ⟨v0, v1, v2, v3, hcs, c0, c1, c2, c3⟩ := ty.ty_cells hrep hc
            have e0 := (BW.cell (p := ⟨b, o + i * 4, none⟩) hS).trans c0
            have e1 := (BW.cell (p := ⟨b, o + i * 4 + 1, none⟩) hS).trans c1
            have e2 := (BW.cell (p := ⟨b, o + i * 4 + 2, none⟩) hS).trans c2
            have e3 := (BW.cell (p := ⟨b, o + i * 4 + 3, none⟩) hS).trans c3
            rw [hcs] at hrep
            clear c0 c1 c2 c3 hc hcs
            have hR := ty.tySh.mono (ty.tySh.below hrep BW) (S' := (· < wr.heap.size)) (fun b hb => Nat.lt_of_lt_of_le hb BW.size)
            have hwi : ty.wt ks[i] ≤ 1048576 := by have := ty.wt_mem (List.getElem_mem hlt); omega
            have hcall := IH.out ks[i] (List.getElem_mem hlt) [v0, v1, v2, v3] wr n hwi hR
            clear hR hrep BW
            by_cases hok : hasB ks[i] n = true
            · have hq : Hid (q = true) := by show _ = _; rw [hq0.out, hasS_yes hlt hok]
              rw [hok] at hcall
              clear hok HA
              go_wp2_with fail
              refine hcall.mono ?_
              clear hcall
              rintro e w1 ⟨rfl, hb⟩
              have B1 : Hid (Below w0.heap.size w0 w1) := HB.out.trans (hb.mono HB.out.size)
              clear hb HB c4 e0 e1 e2 e3
              go_wp2
              go_ret
              exact ⟨ret_bool hq.out.symm, B0.out.trans (B1.out.mono (by rw [Z0.out]; omega))⟩
            · have hok' : hasB ks[i] n = false := by simpa using hok
              have hA2 : Hid (hasS (ks.take (i + 1)) n = false) := by show _ = _; rw [hasS_take hlt, HA.out, hok']; rfl
              rw [hok'] at hcall
              clear hok hok' HA
              go_wp2_with fail
              refine hcall.mono ?_
              clear hcall
              rintro e w1 ⟨rfl, hb⟩
              have B1 : Hid (Below w0.heap.size w0 w1) := HB.out.trans (hb.mono HB.out.size)
              clear hb HB c4 e0 e1 e2 e3
              go_wp2
              go_round
              case rel => exact ⟨i + 1, by omega, by go_num, hA2, B1⟩
              case measure => simp [intOf]; omega
          · obtain rfl : i = ks.length := by omega
            have hq : Hid (q = false) := by
              have := HA.out
              rw [List.take_length] at this
              show _ = _; rw [hq0.out, this]
            have B1 : Hid (Below w.heap.size w wr) := B0.out.trans (HB.out.mono (by rw [Z0.out]; omega))
            go_wp2
            go_ret
            exact ⟨ret_bool hq.out.symm, B1.out⟩

/-- What the model has seen to be right of the first i Binds. -/
def Right (s : List BindD) (i : Nat) : Prop := ∀ j (hj : j < s.length), j < i → goodB s[j] = true ∧ (∀ k (hk : k < j), s[k].1 ≠ s[j].1) ∧ ∀ k (hk : k < s.length), hasB s[j].2 s[k].1 = false

theorem sub_true {s : List BindD} (h : Right s s.length) : subOkB s = true := by
  unfold subOkB
  rw [Bool.and_eq_true, Bool.and_eq_true]
  refine ⟨List.all_eq_true.2 fun b hb => ?_, decide_eq_true ?_, List.all_eq_true.2 fun x hx => ?_⟩
  · obtain ⟨j, hj, rfl⟩ := List.getElem_of_mem hb
    exact (h j hj hj).1
  · rw [List.nodup_iff_pairwise_ne, List.pairwise_iff_getElem]
    intro i j hi hj hij
    simp only [nums, List.getElem_map]
    rw [nums_length] at hi hj
    exact (h j hj hj).2.1 i hij
  · simp only [nums, List.mem_map] at hx
    obtain ⟨b, hb, rfl⟩ := hx
    obtain ⟨k, hk, rfl⟩ := List.getElem_of_mem hb
    simp only [Bool.not_eq_true', decide_eq_false_iff_not, vs, List.mem_flatMap, not_exists, not_and]
    intro c hc
    obtain ⟨j, hj, rfl⟩ := List.getElem_of_mem hc
    have := (h j hj hj).2.2 k hk
    simpa [hasB] using this
theorem sub_good {s : List BindD} {i : Nat} (hi : i < s.length) (h : goodB s[i] = false) : subOkB s = false := by
  unfold subOkB; rw [good_no hi h]; rfl
theorem sub_twice {s : List BindD} {k i : Nat} (hi : i < s.length) (hk : k < i) (h : s[k].1 = s[i].1) : subOkB s = false := by
  have : ¬ (nums s).Nodup := fun hn => by
    rw [List.nodup_iff_pairwise_ne, List.pairwise_iff_getElem] at hn
    have := hn k i (by rw [nums_length]; omega) (by rw [nums_length]; omega) hk
    simp only [nums, List.getElem_map] at this
    exact this h
  unfold subOkB; rw [decide_eq_false this]; simp
theorem sub_has {s : List BindD} {k i : Nat} (hi : i < s.length) (hk : k < s.length) (h : hasB s[i].2 s[k].1 = true) : subOkB s = false := by
  have : ((nums s).all fun x => !decide (x ∈ vs s)) = false := by
    rw [List.all_eq_false]
    refine ⟨s[k].1, List.mem_map.2 ⟨s[k], List.getElem_mem hk, rfl⟩, ?_⟩
    have h2 : s[k].1 ∈ vs s := List.mem_flatMap.2 ⟨s[i], List.getElem_mem hi, of_decide_eq_true h⟩
    simp [h2]
  unfold subOkB; rw [this]; simp

set_option maxRecDepth 100000 in
set_option maxHeartbeats 4000000 in
theorem specSubOk (s : List BindD) (v : Value) (w : World) (hw : s.length + wts s ≤ 1048576) (h : bindSh.slice.rep w (· < w.heap.size) [v] s) :
    Calls Try.prog 16 #[v] w fun e w' => e = .returned (.bool (subOkB s)) ∧ Below w.heap.size w w' := by
  have hrp := h
  obtain ⟨a, cap, css, rfl, hcap, hmax, hrow, hk⟩ := binds_open h
  have HR : Hid (RowAt w (· < w.heap.size) 5 a s.length css ∧ ∀ i (h : i < s.length), bindSh.rep w (· < w.heap.size) (css i) s[i]) := ⟨hrow, hk⟩
  have SL : Hid (∀ w' : World, Below w.heap.size w w' → bindSh.slice.rep w' (· < w'.heap.size) [.slice a s.length cap] s) := fun w' hb => bindSh.slice.mono (bindSh.slice.below hrp hb) fun b hlt => Nat.lt_of_lt_of_le hlt hb.size
  clear hrow hk h hcap hmax hrp
  have hls : s.length ≤ 1048576 := by omega
  obtain ⟨q, hq⟩ : ∃ q, q = subOkB s := ⟨_, rfl⟩
  have HQ : Hid (q = subOkB s) := hq
  rw [← hq]
  clear hq
  go_enter Try.func16, Try.ntmps16
  go_wp2
  go_loopw [3] (fun v3 wr => ∃ i : Nat, i ≤ s.length ∧ v3 = .int .i64 i ∧ Hid (Right s i) ∧ Hid (Below w.heap.size w wr)) (fun v3 _ => s.length - (intOf v3).toNat)
  case atStart => exact ⟨0, Nat.zero_le _, rfl, fun j _ hj => absurd hj (Nat.not_lt_zero _), Below.refl _ _⟩
  case round =>
    obtain ⟨i, hi, rfl, HA, HB⟩ := hrel
    by_cases hlt : i < s.length
    · obtain ⟨b, o, rfl, hS, hc⟩ := HR.out.1 i hlt
      obtain ⟨x0, T, u0, u1, u2, u3, hT, hcs, f0, f1⟩ := bind_open (HR.out.2 i hlt)
      rw [hcs] at hc
      have CE : Hid (∀ wk : World, Below w.heap.size w wk → ∀ (q : Nat) v, [Value.int .i64 x0, u0, u1, u2, u3][q]? = some v → wk.cell? ⟨b, o + i * 5 + q, none⟩ = some v) := fun wk hb q v hq => (hb.cell (p := ⟨b, o + i * 5 + q, none⟩) hS).trans (hc q v hq)
      have hwT : ty.wt T ≤ 1048576 := by
        have h1 := wt_mem (List.getElem_mem hlt)
        rw [hT] at h1
        simp [wt] at h1
        omega
      have HX : Hid (goodB s[i] = (decide (0 ≤ x0) && ty.tyOkB T)) := by show _ = _; rw [hT]; rfl
      have HN : Hid (s[i].1 = x0 ∧ s[i].2 = T) := by show _ ∧ _; rw [hT]; exact ⟨rfl, rfl⟩
      have AT : Hid (∀ w' : World, Below w.heap.size w w' → ty.tySh.rep w' (· < w'.heap.size) [u0, u1, u2, u3] T) := fun w' hb => ty.tySh.mono (ty.tySh.below f1 hb) fun b hlt => Nat.lt_of_lt_of_le hlt hb.size
      clear hT hcs hc f1
      have e0 : wr.cell? ⟨b, o + i * 5, none⟩ = _ := CE.out wr HB.out 0 _ rfl
      by_cases hx : x0 < 0
      · have hq2 : Hid (q = false) := by show _ = _; rw [HQ.out, sub_good hlt (by rw [HX.out, decide_eq_false (by omega)]; rfl)]
        go_wp2
        go_ret
        exact ⟨ret_bool hq2.out.symm, HB.out⟩
      · have hx' : 0 ≤ x0 := by omega
        go_wp2_with fail
        refine (at_any s _ x0 _ hls (SL.out _ HB.out)).mono ?_
        rintro e w2 ⟨r, rfl, hr, hb⟩
        have B2 : Hid (Below w.heap.size w w2) := HB.out.trans (hb.mono HB.out.size)
        clear hb e0
        by_cases hri : r = (i : Nat)
        · have hF : Hid (∀ k (hk : k < i), s[k].1 ≠ s[i].1) := by
            rcases hr with ⟨k, hk, h1, h2, h3⟩ | ⟨h1, _⟩
            · have : k = i := by omega
              subst this
              rw [HN.out.1]; exact h3
            · omega
          clear hr
          subst hri
          have e1 : w2.cell? ⟨b, o + i * 5 + 1, none⟩ = _ := CE.out w2 B2.out 1 _ rfl
          have e2 : w2.cell? ⟨b, o + i * 5 + 2, none⟩ = _ := CE.out w2 B2.out 2 _ rfl
          have e3 : w2.cell? ⟨b, o + i * 5 + 3, none⟩ = _ := CE.out w2 B2.out 3 _ rfl
          have e4 : w2.cell? ⟨b, o + i * 5 + 4, none⟩ = _ := CE.out w2 B2.out 4 _ rfl
          go_wp2_with fail
          refine (ty.specTyOk T _ _ hwT (AT.out _ B2.out)).mono ?_
          rintro e w3 ⟨rfl, hb⟩
          have B3 : Hid (Below w.heap.size w w3) := B2.out.trans (hb.mono B2.out.size)
          clear hb e1 e2 e3 e4 B2 HB
          by_cases hok : ty.tyOkB T = true
          · rw [hok]
            have hG : Hid (goodB s[i] = true) := by show _ = _; rw [HX.out, hok, decide_eq_true hx']; rfl
            clear HX hok
            go_wp2
            go_loopw [4] (fun v4 wi => ∃ k : Nat, k ≤ s.length ∧ v4 = .int .i64 k ∧ Hid (∀ j (hj : j < s.length), j < k → hasB T s[j].1 = false) ∧ Hid (Below w.heap.size w wi)) (fun v4 _ => s.length - (intOf v4).toNat)
            case atStart => exact ⟨0, Nat.zero_le _, rfl, fun j _ hj => absurd hj (Nat.not_lt_zero _), B3⟩
            case round =>
              obtain ⟨k, hk, rfl, HAk, HBk⟩ := hrel
              rename World => wi
              by_cases hlk : k < s.length
              · obtain ⟨b', o', e, hSk, hck⟩ := HR.out.1 k hlk
                cases e
                obtain ⟨y0, Tk, z0, z1, z2, z3, hTk, hcsk, -, -⟩ := bind_open (HR.out.2 k hlk)
                rw [hcsk] at hck
                have g0 := (HBk.out.cell (p := ⟨b, o + k * 5, none⟩) hSk).trans (hck 0 _ rfl)
                have HNk : Hid (s[k].1 = y0) := by show _ = _; rw [hTk]
                have e1 : wi.cell? ⟨b, o + i * 5 + 1, none⟩ = _ := CE.out wi HBk.out 1 _ rfl
                have e2 : wi.cell? ⟨b, o + i * 5 + 2, none⟩ = _ := CE.out wi HBk.out 2 _ rfl
                have e3 : wi.cell? ⟨b, o + i * 5 + 3, none⟩ = _ := CE.out wi HBk.out 3 _ rfl
                have e4 : wi.cell? ⟨b, o + i * 5 + 4, none⟩ = _ := CE.out wi HBk.out 4 _ rfl
                clear hTk hcsk hck
                have hcall := has_any T _ wi.drew y0 hwT (AT.out _ HBk.out.drew)
                by_cases hh : hasB T y0 = true
                · rw [hh] at hcall
                  have hq2 : Hid (q = false) := by show _ = _; rw [HQ.out, sub_has hlt hlk (by rw [HN.out.2, HNk.out]; exact hh)]
                  clear hh
                  go_wp2
                  go_region_with (go_at_call 38; refine hcall.mono ?_; rintro e w5 ⟨rfl, hb5⟩)
                  all_goals
                    have B5 : Hid (Below w.heap.size w w5) := HBk.out.drew.trans (hb5.mono HBk.out.size)
                    clear hb5 hcall e1 e2 e3 e4 g0
                    go_wp2
                    go_ret
                    exact ⟨ret_bool hq2.out.symm, B5.out⟩
                · have hh' : hasB T y0 = false := by simpa using hh
                  rw [hh'] at hcall
                  have HA2 : Hid (∀ j (hj : j < s.length), j < k + 1 → hasB T s[j].1 = false) := fun j hj h1 => by
                    by_cases e : j = k
                    · subst e; rw [HNk.out]; exact hh'
                    · exact HAk.out j hj (by omega)
                  clear hh hh'
                  go_wp2
                  go_region_with (go_at_call 38; refine hcall.mono ?_; rintro e w5 ⟨rfl, hb5⟩)
                  all_goals
                    have B5 : Hid (Below w.heap.size w w5) := HBk.out.drew.trans (hb5.mono HBk.out.size)
                    clear hb5 hcall e1 e2 e3 e4 g0
                    go_wp2
                    go_round
                    case rel => exact ⟨k + 1, by omega, by go_num, HA2, B5⟩
                    case measure => simp [intOf]; omega
              · obtain rfl : k = s.length := by omega
                have HA2 : Hid (Right s (i + 1)) := fun j hj h1 => by
                  by_cases e : j = i
                  · subst e
                    exact ⟨hG.out, hF.out, fun k hk => by rw [HN.out.2]; exact HAk.out k hk hk⟩
                  · exact HA.out j hj (by omega)
                go_wp2
                go_round
                case rel => exact ⟨i + 1, by omega, by go_num, HA2, HBk⟩
                case measure => simp [intOf]; omega
          · have hok' : ty.tyOkB T = false := by simpa using hok
            rw [hok']
            have hq2 : Hid (q = false) := by show _ = _; rw [HQ.out, sub_good hlt (by rw [HX.out, hok']; simp)]
            go_wp2
            go_ret
            exact ⟨ret_bool hq2.out.symm, B3.out⟩
        · have hq2 : Hid (q = false) := by
            show _ = _
            rw [HQ.out]
            rcases hr with ⟨k, hk, h1, h2, h3⟩ | ⟨_, h1⟩
            · have hki : k < i := by
                rcases Nat.lt_trichotomy k i with h | h | h
                · exact h
                · exact absurd (by rw [h1, h]) hri
                · exact absurd HN.out.1 (h3 i h)
              exact sub_twice hlt hki (by rw [h2, HN.out.1])
            · exact absurd HN.out.1 (h1 i hlt)
          clear hr
          have hri' : (r == ((i : Nat) : Int)) = false := by simpa using hri
          go_wp2
          go_ret
          exact ⟨ret_bool hq2.out.symm, B2.out⟩
    · obtain rfl : i = s.length := by omega
      have hq2 : Hid (q = true) := by show _ = _; rw [HQ.out, sub_true HA.out]
      go_wp2
      go_ret
      exact ⟨ret_bool hq2.out.symm, HB.out⟩

end Go.Proofs.Ytkojogfljnnfhaa.bind

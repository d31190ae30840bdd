/-
  A type as text, and the model's TyText, at every type; nothing that was there is turned.
-/
import Derived.Test.YtfcnadepopbdhaaDoorTySz
import Derived.Deep.RegionWith
import Derived.Laws.Strings
import Derived.Laws.IdiomStrings
import Derived.Deep.RegionHeld3
import Derived.Sort.AtCall
import Derived.Deep.QuietTactic
import Derived.BigQuiet
import Derived.WalkSmall
namespace Go.Proofs.YtfcnadepopbdhaaDoor.ty
open Go.RowKit Go.Proofs.YtfcnadepopbdhaaDoor.rose Go.Proofs.YtfcnadepopbdhaaDoor
set_option linter.unusedVariables false
set_option linter.unusedSimpArgs false

/-- Bytes as a text. -/
def str (l : List UInt8) : ByteArray := ⟨l.toArray⟩
theorem str_append (a b : List UInt8) : str a ++ str b = str (a ++ b) := by
  apply ByteArray.ext
  simp [str, ByteArray.data_append]
theorem str_of (s : ByteArray) : s = str s.data.toList := by simp [str]
theorem str_size (l : List UInt8) : (str l).size = l.length := by simp [str, ByteArray.size]

mutual
def tl : TyD → List UInt8
  | .mk (op, n, s) ks =>
    if op = 1 then [73, 110, 116]
    else if op = 2 then (if n < 0 then [63] else [UInt8.ofNat (97 + n % 26).toNat])
    else if op = 3 ∧ ks.length = 2 then [40] ++ ((tlS ks)[0]?).getD [] ++ [32, 45, 62, 32] ++ ((tlS ks)[1]?).getD [] ++ [41]
    else if op = 4 then (if ks.length = 0 then s.data.toList else [40] ++ (s.data.toList ++ (tlS ks).flatMap fun t => 32 :: t) ++ [41])
    else [63]
def tlS : List TyD → List (List UInt8)
  | [] => []
  | k :: ks => tl k :: tlS ks
end

theorem tlS_eq (ks : List TyD) : tlS ks = ks.map tl := by
  induction ks with
  | nil => rfl
  | cons k ks ih => simp [tlS, ih]

theorem tl_le (T : TyD) : (tl T).length ≤ 16 * wt T + 8 := by
  induction T using ind with
  | h x ks ih =>
    obtain ⟨op, n, s⟩ := x
    have hs : s.data.toList.length = s.size := by rw [Array.length_toList]; rfl
    have hsum : ((tlS ks).flatMap fun t => 32 :: t).length ≤ 9 * ks.length + 16 * wts ks := by
      rw [tlS_eq]
      clear hs op n s
      induction ks with
      | nil => simp
      | cons k ks ih2 =>
        have h1 := ih k (by simp)
        have h2 := ih2 fun q hq => ih q (by simp [hq])
        simp only [List.map_cons, List.flatMap_cons, List.length_append, List.length_cons, wts]
        omega
    have h01 : ((((tlS ks)[0]?).getD []).length + (((tlS ks)[1]?).getD []).length) ≤ 8 * ks.length + 16 * wts ks := by
      rw [tlS_eq]
      match ks, ih with
      | [], _ => simp
      | [k], ih => have := ih k (by simp); simp [wts]; omega
      | k :: k' :: ks, ih =>
        have h1 := ih k (by simp)
        have h2 := ih k' (by simp)
        simp [wts]
        omega
    have hz : ks.length = 0 ∨ 1 ≤ ks.length := by omega
    simp only [tl, wt]
    split
    · simp only [List.length_cons, List.length_nil]; omega
    · split
      · split <;> simp only [List.length_cons, List.length_nil] <;> omega
      · split
        · simp only [List.length_append, List.length_cons, List.length_nil]
          omega
        · split
          · split
            · omega
            · simp only [List.length_append, List.length_cons, List.length_nil]
              omega
          · simp only [List.length_cons, List.length_nil]; omega

theorem flat_le (ks : List TyD) : ((tlS ks).flatMap fun t => 32 :: t).length ≤ 9 * ks.length + 16 * wts ks := by
  rw [tlS_eq]
  induction ks with
  | nil => simp
  | cons k ks ih2 =>
    have h1 := tl_le k
    simp only [List.map_cons, List.flatMap_cons, List.length_append, List.length_cons, wts]
    omega
theorem flatTake_le (ks : List TyD) (i : Nat) : (((tlS ks).take i).flatMap fun t => 32 :: t).length ≤ 9 * ks.length + 16 * wts ks := by
  refine Nat.le_trans ?_ (flat_le ks)
  conv => rhs; rw [← List.take_append_drop i (tlS ks)]
  rw [List.flatMap_append, List.length_append]
  omega
theorem flatTake_succ (ks : List TyD) {i : Nat} (h : i < ks.length) : (((tlS ks).take (i + 1)).flatMap fun t => 32 :: t) = (((tlS ks).take i).flatMap fun t => 32 :: t) ++ (32 :: tl ks[i]) := by
  rw [tlS_eq, List.take_succ_eq_append_getElem (by simpa using h), List.flatMap_append]
  simp

def TextSays (T : TyD) : Prop := ∀ cs w, wt T ≤ 1048576 → tySh.rep w (· < w.heap.size) cs T →
  Calls Tryd.prog 11 #[.agg cs.toArray] w fun e w' => e = .returned (.string (str (tl T))) ∧ Below w.heap.size w w'

set_option maxRecDepth 100000 in
set_option maxHeartbeats 4000000 in
theorem specTyText (T : TyD) : TextSays T := by
  induction T using ind with
  | h x ks ih =>
    intro cs w hw h
    obtain ⟨op, n, s, ks', a, cap, hT, rfl, f0, f1, f2, fk⟩ := ty_open h
    cases hT
    obtain ⟨a', cap', css, e, -, hmax, hrow, hk⟩ := tys_open fk
    cases e
    clear h
    have hle : ks.length + wts ks ≤ 1048576 := by simp [wt] at hw; omega
    have IH : Hid _ := ih
    have HR : Hid (RowAt w (· < w.heap.size) 4 a ks.length css ∧ ∀ i (h : i < ks.length), tySh.rep w (· < w.heap.size) (css i) ks[i]) := ⟨hrow, hk⟩
    have HSZ : Hid (s.size ≤ 1048576) := by simp [wt] at hw; show _ ≤ _; omega
    clear ih hrow hk hmax hw fk
    obtain ⟨q, hq⟩ : ∃ q, q = tl (.mk (op, n, s) ks) := ⟨_, rfl⟩
    have HQ : Hid (q = tl (.mk (op, n, s) ks)) := hq
    rw [← hq]
    clear hq
    go_enter Tryd.func11, Tryd.ntmps11
    by_cases h1 : op = 1
    · subst h1
      have HV : Hid (q = [73, 110, 116]) := by show _ = _; rw [HQ.out]; simp [tl]
      go_wp2
      go_ret
      exact ⟨by rw [HV.out]; rfl, (Below.refl _ _).alloc (Nat.le_refl _) _⟩
    · have h1' : (op == 1) = false := by simpa using h1
      by_cases h2 : op = 2
      · subst h2
        by_cases hn : n < 0
        · have HV : Hid (q = [63]) := by show _ = _; rw [HQ.out]; simp [tl, hn]
          go_wp2
          go_ret
          exact ⟨by rw [HV.out]; rfl, (Below.refl _ _).alloc (Nat.le_refl _) _⟩
        · have HV : Hid (q = [UInt8.ofNat (97 + n % 26).toNat]) := by show _ = _; rw [HQ.out]; simp [tl, hn]
          have hn' : 0 ≤ n := by omega
          have hb0 : 0 ≤ n % 26 ∧ n % 26 < 26 := ⟨Int.emod_nonneg _ (by decide), Int.emod_lt_of_pos _ (by decide)⟩
          have hun : ((UInt8.ofNat (97 + n % 26).toNat).toNat : Int) = 97 + n % 26 := by
            rw [UInt8.toNat_ofNat']
            omega
          have hcv : (convert 53 9 (.slice (some ⟨w.heap.size + 1, 0, none⟩) 1 1)).run Tryd.prog ((w.alloc (.cells #[.int .i64 2, .int .i64 n, .string s, .slice a ks.length cap] 40)).alloc (.cells #[.int .u8 (97 + n % 26)] 5)) = .ok (.string (str [UInt8.ofNat (97 + n % 26).toNat])) ((w.alloc (.cells #[.int .i64 2, .int .i64 n, .string s, .slice a ks.length cap] 40)).alloc (.cells #[.int .u8 (97 + n % 26)] 5)) :=
            run_convert_bytes_back _ 53 9 5 ⟨w.heap.size + 1, 0, none⟩ 1 [UInt8.ofNat (97 + n % 26).toNat] Tryd.underlying53 Tryd.underlying5 Tryd.underlying9 (fun j hj => by
              obtain rfl : j = 0 := by simp at hj; exact hj
              simp only [List.getElem_cons_zero, hun]
              simp [Addr.add])
          go_wp2
          go_ret
          exact ⟨by rw [HV.out]; rfl, ((Below.refl _ _).alloc (Nat.le_refl _) _).alloc (by simp) _⟩
      · have h2' : (op == 2) = false := by simpa using h2
        have B0 : Hid (Below w.heap.size w (w.alloc (.cells #[.int .i64 op, .int .i64 n, .string s, .slice a ks.length cap] 40))) := (Below.refl _ _).alloc (Nat.le_refl _) _
        by_cases h3 : op = 3 ∧ ks.length = 2
        · obtain ⟨h3, hl2⟩ := h3
          subst h3
          have hp0 : 0 < ks.length := by omega
          have hp1 : 1 < ks.length := by omega
          obtain ⟨b, o, rfl, hS, hc0⟩ := HR.out.1 0 hp0
          obtain ⟨b', o', eb, _, hc1⟩ := HR.out.1 1 hp1
          simp only [Option.some.injEq, Addr.mk.injEq, and_true] at eb
          obtain ⟨eb1, eb2⟩ := eb
          subst eb1 eb2
          have hr0 := HR.out.2 0 hp0
          have hr1 := HR.out.2 1 hp1
          obtain ⟨u0, u1, u2, u3, hcs0, d0, d1, d2, d3⟩ := ty_cells hr0 hc0
          obtain ⟨v0, v1, v2, v3, hcs1, g0, g1, g2, g3⟩ := ty_cells hr1 hc1
          simp only [Nat.zero_mul, Nat.add_zero, Nat.one_mul] at d0 d1 d2 d3 g0 g1 g2 g3
          rw [hcs0] at hr0
          rw [hcs1] at hr1
          have K0 : Hid (∀ w', Below w.heap.size w w' → Calls Tryd.prog 11 #[.agg #[u0, u1, u2, u3]] w' fun e w'' => e = .returned (.string (str (tl ks[0]))) ∧ Below w'.heap.size w' w'') := fun w' hb => IH.out ks[0] (List.getElem_mem hp0) [u0, u1, u2, u3] w' (by have := wt_mem (List.getElem_mem hp0); omega) (tySh.mono (tySh.below hr0 hb) fun b hlt => Nat.lt_of_lt_of_le hlt hb.size)
          have K1 : Hid (∀ w', Below w.heap.size w w' → Calls Tryd.prog 11 #[.agg #[v0, v1, v2, v3]] w' fun e w'' => e = .returned (.string (str (tl ks[1]))) ∧ Below w'.heap.size w' w'') := fun w' hb => IH.out ks[1] (List.getElem_mem hp1) [v0, v1, v2, v3] w' (by have := wt_mem (List.getElem_mem hp1); omega) (tySh.mono (tySh.below hr1 hb) fun b hlt => Nat.lt_of_lt_of_le hlt hb.size)
          have HV : Hid (q = ([40] : List UInt8) ++ tl ks[0] ++ ([32, 45, 62, 32] : List UInt8) ++ tl ks[1] ++ ([41] : List UInt8)) := by
            show _ = _
            rw [HQ.out]
            simp [tl, hl2, tlS_eq, List.getElem?_eq_getElem hp0, List.getElem?_eq_getElem hp1]
          have hlen : (ks.length : Int) = 2 := by omega
          clear hcs0 hcs1 hc0 hc1 hr0 hr1
          have CELLS : Hid (∀ w', Below w.heap.size w w' → (w'.cell? ⟨b, o, none⟩ = some u0 ∧ w'.cell? ⟨b, o + 1, none⟩ = some u1 ∧ w'.cell? ⟨b, o + 2, none⟩ = some u2 ∧ w'.cell? ⟨b, o + 3, none⟩ = some u3) ∧ (w'.cell? ⟨b, o + 4, none⟩ = some v0 ∧ w'.cell? ⟨b, o + 4 + 1, none⟩ = some v1 ∧ w'.cell? ⟨b, o + 4 + 2, none⟩ = some v2 ∧ w'.cell? ⟨b, o + 4 + 3, none⟩ = some v3)) := fun w' hb =>
            ⟨⟨(hb.cell (p := ⟨b, o, none⟩) hS).trans d0, (hb.cell (p := ⟨b, o + 1, none⟩) hS).trans d1, (hb.cell (p := ⟨b, o + 2, none⟩) hS).trans d2, (hb.cell (p := ⟨b, o + 3, none⟩) hS).trans d3⟩, ⟨(hb.cell (p := ⟨b, o + 4, none⟩) hS).trans g0, (hb.cell (p := ⟨b, o + 4 + 1, none⟩) hS).trans g1, (hb.cell (p := ⟨b, o + 4 + 2, none⟩) hS).trans g2, (hb.cell (p := ⟨b, o + 4 + 3, none⟩) hS).trans g3⟩⟩
          clear d0 d1 d2 d3 g0 g1 g2 g3
          have KP : Hid (∀ w', Below w.heap.size w w' → w'.cell? ⟨w.heap.size, 3, none⟩ = some (.slice (some ⟨b, o, none⟩) 2 cap) → (w'.cell? ⟨w.heap.size, 3, none⟩ = some (.slice (some ⟨b, o, none⟩) 2 cap) ∧ w'.cell? ⟨b, o, none⟩ = some u0 ∧ w'.cell? ⟨b, o + 1, none⟩ = some u1 ∧ w'.cell? ⟨b, o + 2, none⟩ = some u2 ∧ w'.cell? ⟨b, o + 3, none⟩ = some u3 ∧ w'.cell? ⟨b, o + 4, none⟩ = some v0 ∧ w'.cell? ⟨b, o + 4 + 1, none⟩ = some v1 ∧ w'.cell? ⟨b, o + 4 + 2, none⟩ = some v2 ∧ w'.cell? ⟨b, o + 4 + 3, none⟩ = some v3)) := fun w' hb h3 => by
            obtain ⟨⟨q0, q1, q2, q3⟩, ⟨r0, r1, r2, r3⟩⟩ := CELLS.out w' hb
            exact ⟨h3, q0, q1, q2, q3, r0, r1, r2, r3⟩
          have hz0 : (str (tl ks[0])).size ≤ 33554432 := by rw [str_size]; have := tl_le ks[0]; have := wt_mem (List.getElem_mem hp0); omega
          have hz1 : (str (tl ks[1])).size ≤ 33554432 := by rw [str_size]; have := tl_le ks[1]; have := wt_mem (List.getElem_mem hp1); omega
          have HS : Hid (∀ t0 t1, t0 = str (tl ks[0]) → t1 = str (tl ks[1]) → (⟨#[40]⟩ : ByteArray) ++ t0 ++ ⟨#[32, 45, 62, 32]⟩ ++ t1 ++ ⟨#[41]⟩ = str q) := fun t0 t1 h0 h1 => by
            rw [HV.out, h0, h1, ← str_append, ← str_append, ← str_append, ← str_append]; rfl
          generalize str (tl ks[0]) = t0 at K0 hz0 HS
          generalize str (tl ks[1]) = t1 at K1 hz1 HS
          have z1 : ¬ (9223372036854775807 < 1 + t0.size) := by omega
          have z2 : ¬ (9223372036854775807 < 1 + t0.size + 4) := by omega
          have z3 : ¬ (9223372036854775807 < 1 + t0.size + 4 + t1.size) := by omega
          have z4 : ¬ (9223372036854775807 < 1 + t0.size + 4 + t1.size + 1) := by omega
          clear hz0 hz1
          go_wp2
          generalize hw0 : w.alloc _ = w0
          have B0d : Hid (Below w.heap.size w w0.drew ∧ w0.drew.cell? ⟨w.heap.size, 3, none⟩ = some (.slice (some ⟨b, o, none⟩) 2 cap) ∧ w.heap.size < w0.heap.size) := by
            subst hw0
            exact ⟨((Below.refl _ _).alloc (Nat.le_refl _) _).drew, by simp, by simp⟩
          clear hw0
          go_region_held3 (fun w' => w'.cell? ⟨w.heap.size, 3, none⟩ = some (.slice (some ⟨b, o, none⟩) 2 cap) ∧ w'.cell? ⟨b, o, none⟩ = some u0 ∧ w'.cell? ⟨b, o + 1, none⟩ = some u1 ∧ w'.cell? ⟨b, o + 2, none⟩ = some u2 ∧ w'.cell? ⟨b, o + 3, none⟩ = some u3 ∧ w'.cell? ⟨b, o + 4, none⟩ = some v0 ∧ w'.cell? ⟨b, o + 4 + 1, none⟩ = some v1 ∧ w'.cell? ⟨b, o + 4 + 2, none⟩ = some v2 ∧ w'.cell? ⟨b, o + 4 + 3, none⟩ = some v3)
            (first | exact KP.out _ B6.out.1 B6.out.2.1 | exact KP.out _ B5.out.1 B5.out.2.1 | exact KP.out _ B0d.out.1 B0d.out.2.1)
            (first
              | (go_at_call_has 11 u0; refine (K0.out _ B0d.out.1).mono ?_; rintro e w5 ⟨rfl, hb5⟩; have B5 : Hid (Below w.heap.size w w5 ∧ w5.cell? ⟨w.heap.size, 3, none⟩ = some (.slice (some ⟨b, o, none⟩) 2 cap) ∧ w.heap.size < w5.heap.size) := ⟨B0d.out.1.trans (hb5.mono B0d.out.1.size), (hb5.cell (p := ⟨w.heap.size, 3, none⟩) B0d.out.2.2).trans B0d.out.2.1, Nat.lt_of_lt_of_le B0d.out.2.2 hb5.size⟩)
              | (go_at_call_has 11 v0; refine (K1.out _ B5.out.1).mono ?_; rintro e w6 ⟨rfl, hb6⟩; have B6 : Hid (Below w.heap.size w w6 ∧ w6.cell? ⟨w.heap.size, 3, none⟩ = some (.slice (some ⟨b, o, none⟩) 2 cap) ∧ w.heap.size < w6.heap.size) := ⟨B5.out.1.trans (hb6.mono B5.out.1.size), (hb6.cell (p := ⟨w.heap.size, 3, none⟩) B5.out.2.2).trans B5.out.2.1, Nat.lt_of_lt_of_le B5.out.2.2 hb6.size⟩))
          all_goals
            go_wp2
            go_ret
            exact ⟨congrArg (fun x => Ending.returned (.string x)) (HS.out t0 t1 rfl rfl), B6.out.1⟩
        · by_cases h4 : op = 4
          · subst h4
            have hsd : s.data.toList.length ≤ 1048576 := by rw [Array.length_toList]; exact HSZ.out
            have HV : Hid (q = if ks.length = 0 then s.data.toList else ([40] : List UInt8) ++ (s.data.toList ++ (tlS ks).flatMap fun t => 32 :: t) ++ ([41] : List UInt8)) := by
              show _ = _
              rw [HQ.out]
              simp only [tl]
              rfl
            go_wp2
            generalize hw0 : w.alloc _ = w0
            have W0 : Hid (Below w.heap.size w w0 ∧ w0.cell? ⟨w.heap.size, 3, none⟩ = some (.slice a ks.length cap) ∧ w.heap.size < w0.heap.size) := by
              subst hw0
              exact ⟨(Below.refl _ _).alloc (Nat.le_refl _) _, by simp, by simp⟩
            clear hw0
            go_loopw [3, 4] (fun v3 v4 wr => ∃ (i : Nat) (t : ByteArray), i ≤ ks.length ∧ v4 = .int .i64 i ∧ v3 = .string t ∧ Hid (t = str (s.data.toList ++ ((tlS ks).take i).flatMap fun t => 32 :: t)) ∧ Hid (Below w.heap.size w wr ∧ wr.cell? ⟨w.heap.size, 3, none⟩ = some (.slice a ks.length cap) ∧ w.heap.size < wr.heap.size)) (fun _ v4 _ => ks.length - (intOf v4).toNat)
            case atStart => exact ⟨0, s, Nat.zero_le _, rfl, rfl, by show _ = _; simp only [List.take_zero, List.flatMap_nil, List.append_nil]; exact str_of s, W0⟩
            case round =>
              obtain ⟨i, t, hi, rfl, rfl, HT, HB⟩ := hrel
              have c3 := HB.out.2.1
              have htz : t.size ≤ 33554432 := by
                rw [HT.out, str_size, List.length_append]
                have := flatTake_le ks i
                omega
              by_cases hlt : i < ks.length
              · obtain ⟨b, o, rfl, hS, hc⟩ := HR.out.1 i hlt
                have hrep := HR.out.2 i hlt
                obtain ⟨v0, v1, v2, v3, hcs, d0, d1, d2, d3⟩ := ty_cells hrep hc
                have BW := HB.out.1
                have e0 := (BW.cell (p := ⟨b, o + i * 4, none⟩) hS).trans d0
                have e1 := (BW.cell (p := ⟨b, o + i * 4 + 1, none⟩) hS).trans d1
                have e2 := (BW.cell (p := ⟨b, o + i * 4 + 2, none⟩) hS).trans d2
                have e3 := (BW.cell (p := ⟨b, o + i * 4 + 3, none⟩) hS).trans d3
                rw [hcs] at hrep
                clear d0 d1 d2 d3 hc hcs
                have hR := tySh.mono (tySh.below hrep BW) (S' := (· < wr.heap.size)) (fun b hb => Nat.lt_of_lt_of_le hb BW.size)
                have hcall := IH.out ks[i] (List.getElem_mem hlt) [v0, v1, v2, v3] wr (by have := wt_mem (List.getElem_mem hlt); omega) hR
                clear hR hrep BW
                have hzi : (str (tl ks[i])).size ≤ 33554432 := by rw [str_size]; have := tl_le ks[i]; have := wt_mem (List.getElem_mem hlt); omega
                have HT2 : Hid (t ++ ⟨#[32]⟩ ++ str (tl ks[i]) = str (s.data.toList ++ ((tlS ks).take (i + 1)).flatMap fun t => 32 :: t)) := by
                  show _ = _
                  rw [HT.out, flatTake_succ ks hlt, ← str_append, ← str_append, ← str_append]
                  rw [show (32 :: tl ks[i]) = [32] ++ tl ks[i] from rfl, ← str_append]
                  apply ByteArray.ext
                  simp [ByteArray.data_append, str]
                generalize str (tl ks[i]) = ti at hcall hzi HT2
                have z1 : ¬ (9223372036854775807 < t.size + 1) := by omega
                have z2 : ¬ (9223372036854775807 < t.size + 1 + ti.size) := by omega
                go_wp2_with fail
                refine hcall.mono ?_
                clear hcall
                rintro e w1 ⟨rfl, hb⟩
                have B1 : Hid (Below w.heap.size w w1 ∧ w1.cell? ⟨w.heap.size, 3, none⟩ = some (.slice (some ⟨b, o, none⟩) ks.length cap) ∧ w.heap.size < w1.heap.size) := ⟨HB.out.1.trans (hb.mono HB.out.1.size), (hb.cell (p := ⟨w.heap.size, 3, none⟩) HB.out.2.2).trans HB.out.2.1, Nat.lt_of_lt_of_le HB.out.2.2 hb.size⟩
                clear hb c3 e0 e1 e2 e3
                go_wp2
                go_round
                case rel => exact ⟨i + 1, _, by omega, by go_num, rfl, HT2, B1⟩
                case measure => simp [intOf]; omega
              · obtain rfl : i = ks.length := by omega
                have HT2 : Hid (t = str (s.data.toList ++ (tlS ks).flatMap fun t => 32 :: t)) := by
                  have := HT.out
                  rwa [List.take_of_length_le (by rw [tlS_eq]; simp)] at this
                by_cases hz : ks.length = 0
                · have HF : Hid (t = str q) := by
                    show _ = _
                    have hk0 : ks = [] := List.eq_nil_of_length_eq_zero hz
                    rw [HT2.out, HV.out, if_pos hz, hk0]
                    simp [tlS]
                  rw [hz] at c3
                  go_wp2
                  go_ret
                  exact ⟨congrArg (fun x => Ending.returned (.string x)) HF.out, HB.out.1⟩
                · have HF : Hid ((⟨#[40]⟩ : ByteArray) ++ t ++ ⟨#[41]⟩ = str q) := by
                    show _ = _
                    rw [HT2.out, HV.out, if_neg hz, ← str_append, ← str_append]; rfl
                  have hpos : (0 : Int) < (ks.length : Nat) := by omega
                  have z1 : ¬ (9223372036854775807 < 1 + t.size) := by omega
                  have z2 : ¬ (9223372036854775807 < 1 + t.size + 1) := by omega
                  go_wp2
                  go_ret
                  exact ⟨congrArg (fun x => Ending.returned (.string x)) HF.out, HB.out.1⟩
          · have h4' : (op == 4) = false := by simpa using h4
            have HV : Hid (q = [63]) := by
              show _ = _
              rw [HQ.out]
              simp only [tl, if_neg h1, if_neg h2, if_neg h3, if_neg h4]
            by_cases h5 : op = 3
            · subst h5
              have hl2 : ((ks.length : Nat) : Int) ≠ 2 := fun e => h3 ⟨rfl, by omega⟩
              have hl3 : (((ks.length : Nat) : Int) == 2) = false := by simpa using hl2
              go_wp2
              go_ret
              exact ⟨by rw [HV.out]; rfl, B0.out⟩
            · have h5' : (op == 3) = false := by simpa using h5
              go_wp2
              go_ret
              exact ⟨by rw [HV.out]; rfl, B0.out⟩

end Go.Proofs.YtfcnadepopbdhaaDoor.ty

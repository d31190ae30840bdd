/-
  The model's l15One, at every argument that Depths hands it.
  The model's l1In; nothing is turned.
-/
import Derived.Test.YtjibmpebebephaaGreatDoorChecked
import Derived.WalkKit
import Derived.WalkLawsBesides
import Derived.Test.YtjibmpebebephaaGreatDoorC1
import Derived.Test.YtjibmpebebephaaGreatDoorC2
import Derived.Test.YtjibmpebebephaaGreatDoorC3
import Derived.Test.YtjibmpebebephaaGreatDoorC4
import Derived.Test.YtjibmpebebephaaGreatDoorC5
import Derived.Test.YtjibmpebebephaaGreatDoorC6
import Derived.Test.YtjibmpebebephaaGreatDoorC7
import Derived.Test.YtjibmpebebephaaGreatDoorC8
import Derived.Test.YtjibmpebebephaaGreatDoorC9
import Derived.Test.YtjibmpebebephaaGreatDoorC10
import Derived.Test.YtjibmpebebephaaGreatDoorC11
namespace Go.Proofs.YtjibmpebebephaaGreatDoor.fun
open Go Go.RowKit Go.Proofs.YtjibmpebebephaaGreatDoor.rose Go.Proofs.YtjibmpebebephaaGreatDoor Go.Proofs.YtjibmpebebephaaGreatDoor.ints
set_option linter.unusedVariables false
set_option linter.unusedSimpArgs false

theorem oneF_bad {D T : List Int} {ok : Bool} {a : Nat} {o : op.OpD} (h : fineB o (D.getD a 0) = false) : oneF D T ok a o = (D, T, false) := by unfold oneF; rw [h]; rfl
theorem oneF_none {D T : List Int} {ok : Bool} {a : Nat} {o : op.OpD} (h : fineB o (D.getD a 0) = true) (hl : leads a o = []) : oneF D T ok a o = (D, T, ok) := by unfold oneF; rw [if_pos h, hl]; rfl
theorem oneF_one {D T : List Int} {ok : Bool} {a s : Nat} {o : op.OpD} (h : fineB o (D.getD a 0) = true) (hl : leads a o = [(s : Int)]) : oneF D T ok a o = goF D T ok s (nextD o (D.getD a 0)) := by
  unfold oneF; rw [if_pos h, hl]; simp only [goL, Int.toNat_natCast]
theorem oneF_two {D T : List Int} {ok : Bool} {a s : Nat} {o : op.OpD} (h : fineB o (D.getD a 0) = true) (hl : leads a o = [(s : Int), (a : Int) + 1]) :
    oneF D T ok a o = goF (goF D T ok s (nextD o (D.getD a 0))).1 (goF D T ok s (nextD o (D.getD a 0))).2.1 (goF D T ok s (nextD o (D.getD a 0))).2.2 (a + 1) (nextD o (D.getD a 0)) := by
  unfold oneF; rw [if_pos h, hl]
  have e : ((a : Int) + 1).toNat = a + 1 := by omega
  simp only [goL, Int.toNat_natCast, e]
theorem goF_len (D T : List Int) (ok : Bool) (b : Nat) (d : Int) : (goF D T ok b d).1.length = D.length ∧ (goF D T ok b d).2.1.length ≤ T.length + 1 := by
  unfold goF
  split
  · simp
  · split
    · simp
    · split <;> simp
theorem fine_is {c n m d : Int} : fineB (c, n, m) d = (decide (takesB c m < d) && !(decide (c = 2) && decide (d ≤ n)) && !(decide (c = 7) && !decide (d = 2))) := rfl

set_option maxRecDepth 100000 in
set_option maxHeartbeats 16000000 in
theorem l15One_any (w : World) (g : Nat) (vd vt : Value) (D T : List Int) (ok : Bool) (a : Nat) (os : List op.OpD) (va : Option Addr) (ca : Nat) (h : WK w g vd vt D T ok) (hD : D.length ≤ 3000) (hT : T.length ≤ 9000) (ha : a < os.length) (hl : D.length = os.length)
    (h0 : 1 ≤ D.getD a 0 ∧ D.getD a 0 ≤ 60) (hos : op.opSh.slice.rep w (· < g) [.slice va os.length ca] os) (htk : 0 ≤ takesB os[a].1 os[a].2.2 ∧ takesB os[a].1 os[a].2.2 ≤ 20) (hp : ∀ s ∈ leads a os[a], 0 ≤ s) :
    Calls Tryz.prog 99 #[.pointer (some ⟨g, 0, none⟩), .slice va os.length ca, .int .i64 a] w fun e w' => e = .returned (.tuple #[]) ∧ (∃ vd' vt', WK w' g vd' vt' (oneF D T ok a os[a]).1 (oneF D T ok a os[a]).2.1 (oneF D T ok a os[a]).2.2) ∧ Below g w w' := by
  obtain ⟨a3, c3, css3, e3, hcap3, hmax3, hrow3, hk3⟩ := op.ops_open hos
  cases e3
  have hglt := h.lt
  obtain ⟨b3, o3, rfl, hS3, hc3⟩ := hrow3 a ha
  obtain ⟨c, n, m, hT3, hcs3, gc, gn, gm⟩ := op.op_open (hk3 a ha)
  rw [hcs3] at hc3
  have u0 : w.cell? ⟨b3, o3 + a * 3, none⟩ = some (.int .i64 c) := hc3 0 _ rfl
  have u1 : w.cell? ⟨b3, o3 + a * 3 + 1, none⟩ = some (.int .i64 n) := hc3 1 _ rfl
  have u2 : w.cell? ⟨b3, o3 + a * 3 + 2, none⟩ = some (.int .i64 m) := hc3 2 _ rfl
  rw [hT3] at htk hp ⊢
  dsimp only at htk
  have haD : a < D.length := by omega
  have hmx : (os.length : Int) ≤ 9223372036854775807 := by omega
  have aI : (a : Int) < (os.length : Int) := by omega
  have aD : (a : Int) < (D.length : Int) := by omega
  obtain ⟨d, hd⟩ : ∃ d, d = D.getD a 0 := ⟨_, rfl⟩
  have HD0 : Hid (D.getD a 0 = d) := hd.symm
  rw [← hd] at h0
  obtain ⟨k, hk⟩ : ∃ k, k = takesB c m := ⟨_, rfl⟩
  obtain ⟨p, hpu⟩ : ∃ p, p = putsB c := ⟨_, rfl⟩
  have pb : 0 ≤ p ∧ p ≤ 1 := by rw [hpu]; exact puts_pos c
  rw [← hk] at htk
  have HK : Hid (takesB c m = k ∧ putsB c = p) := ⟨hk.symm, hpu.symm⟩
  rcases h.rd.open with ⟨h1, h2⟩ | ⟨q, cap, hvq, hq1, hq2, hq3, hq4, hqc, cur, tq, hqb⟩
  · subst h2; simp at haD
  have e0 : w.cell? ⟨q, a, none⟩ = some (.int .i64 d) := by rw [hd, getD_get haD]; exact hqc a haD
  subst hvq
  have HWK : Hid (WK w g (.slice (some ⟨q, 0, none⟩) D.length cap) vt D T ok) := h
  have c0 : w.cell? ⟨g, 0, none⟩ = some (.slice (some ⟨q, 0, none⟩) D.length cap) := blk_cellW (i := 0) h.blk rfl
  have HP : Hid (∀ s ∈ leads a (c, n, m), 0 ≤ s) := hp
  have HG : Hid (g < w.heap.size ∧ (-9223372036854775808 ≤ n ∧ n ≤ 9223372036854775807) ∧ (-9223372036854775808 ≤ m ∧ m ≤ 9223372036854775807)) := ⟨hglt, gn, gm⟩
  have BA : Below w.heap.size w (w.alloc (.cells #[.int .i64 c, .int .i64 n, .int .i64 m] 90)) := (Below.refl _ _).alloc (Nat.le_refl _) _
  have c0' : (w.alloc (.cells #[.int .i64 c, .int .i64 n, .int .i64 m] 90)).cell? ⟨g, 0, none⟩ = some (.slice (some ⟨q, 0, none⟩) D.length cap) := (BA.cell (p := ⟨g, 0, none⟩) hglt).trans c0
  have e0' : (w.alloc (.cells #[.int .i64 c, .int .i64 n, .int .i64 m] 90)).cell? ⟨q, a, none⟩ = some (.int .i64 d) := (BA.cell (p := ⟨q, a, none⟩) hq2).trans e0
  have hcall := effect_any c n m (w.alloc (.cells #[.int .i64 c, .int .i64 n, .int .i64 m] 90))
  rw [HK.out.1, HK.out.2] at hcall
  have HBA : Hid (Below w.heap.size w (w.alloc (.cells #[.int .i64 c, .int .i64 n, .int .i64 m] 90))) := BA
  clear hc3 hcs3 hT3 h hos hrow3 hk3 hcap3 hmax3 hqc hqb hq1 hq2 hq3 hq4 hd hk hpu hp BA gc gn gm
  go_enter Tryz.func99, Tryz.ntmps99
  go_wp2_with fail
  refine hcall.mono ?_
  rintro e w1 ⟨rfl, hb⟩
  have B1 : Hid (Below g w w1) := (HBA.out.trans (hb.mono HBA.out.size)).mono (by have := HG.out.1; omega)
  have W1 : Hid (WK w1 g (.slice (some ⟨q, 0, none⟩) D.length cap) vt D T ok) := (HWK.out.on HBA.out).on hb
  have z1 : w.heap.size < (w.alloc (.cells #[.int .i64 c, .int .i64 n, .int .i64 m] 90)).heap.size := by simp
  have x0 : w1.cell? ⟨w.heap.size, 0, none⟩ = some (.int .i64 c) := (hb.cell (p := ⟨w.heap.size, 0, none⟩) z1).trans (by simp)
  have x1 : w1.cell? ⟨w.heap.size, 1, none⟩ = some (.int .i64 n) := (hb.cell (p := ⟨w.heap.size, 1, none⟩) z1).trans (by simp)
  have x2 : w1.cell? ⟨w.heap.size, 2, none⟩ = some (.int .i64 m) := (hb.cell (p := ⟨w.heap.size, 2, none⟩) z1).trans (by simp)
  have y2 : w1.cell? ⟨g, 2, none⟩ = some (.bool ok) := blk_cellW (i := 2) W1.out.blk rfl
  have yf : w1.frozen? ⟨g, 2, none⟩ = false := blk_freeW (i := 2) W1.out.blk
  have HS : Hid (w.heap.size < w1.heap.size) := Nat.lt_of_lt_of_le z1 hb.size
  clear hcall hb c0 c0' e0 e0' u0 u1 u2 z1 HBA HWK
  have FT : Hid (fineB (c, n, m) d = (decide (k < d) && !(decide (c = 2) && decide (d ≤ n)) && !(decide (c = 7) && !decide (d = 2)))) := by show _ = _; rw [fine_is, HK.out.1]
  have NX : Hid (nextD (c, n, m) d = d - k + p) := by show d - takesB c m + putsB c = _; rw [HK.out.1, HK.out.2]
  by_cases hk1 : d - 1 < k
  · have t0 : decide (d - 1 < k) = true := by simpa using hk1
    have HF : Hid (fineB (c, n, m) d = false) := by show _ = _; rw [FT.out, show decide (k < d) = false by simp; omega]; rfl
    go_wp2
    ((try simp only [Exit.inBlock, Exit.then]); (first | refine bodyPost_ret (results_none rfl _ _ _) rfl ?_ | refine bodyPost_end (results_none rfl _ _ _) rfl ?_))
    rw [oneF_bad (by rw [HD0.out]; exact HF.out)]
    exact ⟨rfl, ⟨_, _, W1.out.no.1⟩, B1.out.trans W1.out.no.2⟩
  · have t0 : decide (d - 1 < k) = false := by simpa using hk1
    have FK : Hid (decide (k < d) = true) := by show _ = _; simp; omega
    have db : d - k + p ≤ 100 ∧ 1 ≤ d - k + p := by omega
    clear hk1
    by_cases hc2 : c = 2
    · subst hc2
      by_cases hn : d ≤ n
      · have t1 : decide (d ≤ n) = true := by simpa using hn
        have HF : Hid (fineB (2, n, m) d = false) := by show _ = _; rw [FT.out, t1]; simp
        go_wp2
        ((try simp only [Exit.inBlock, Exit.then]); (first | refine bodyPost_ret (results_none rfl _ _ _) rfl ?_ | refine bodyPost_end (results_none rfl _ _ _) rfl ?_))
        rw [oneF_bad (by rw [HD0.out]; exact HF.out)]
        exact ⟨rfl, ⟨_, _, W1.out.no.1⟩, B1.out.trans W1.out.no.2⟩
      · have t1 : decide (d ≤ n) = false := by simpa using hn
        have HF : Hid (fineB (2, n, m) d = true) := by show _ = _; rw [FT.out, FK.out]; rw [t1]; simp
        have HL : Hid (leads a (2, n, m) = [(a : Int) + 1]) := by show _ = _; simp [leads]
        go_wp2_with fail
        refine (l15Go_any w1 g _ vt D T ok (a + 1) (d - k + p) W1.out hD (by omega) (by omega) (by omega)).mono ?_
        rintro e w2 ⟨rfl, hk2, hb2⟩
        have K2 : Hid _ := hk2
        clear hk2
        go_wp2
        ((try simp only [Exit.inBlock, Exit.then]); (first | refine bodyPost_ret (results_none rfl _ _ _) rfl ?_ | refine bodyPost_end (results_none rfl _ _ _) rfl ?_))
        rw [oneF_one (s := a + 1) (by rw [HD0.out]; exact HF.out) (by rw [HL.out]; simp), HD0.out, NX.out]
        exact ⟨rfl, K2.out, B1.out.trans hb2⟩
    · have n2 : (c == 2) = false := by simpa using hc2
      by_cases hc7 : c = 7
      · subst hc7
        by_cases hd2 : d = 2
        · subst hd2
          have t0' : decide ((1 : Int) < k) = false := by simpa using t0
          have HF : Hid (fineB (7, n, m) 2 = true) := by show _ = _; rw [FT.out, FK.out]; simp
          go_wp2
          ((try simp only [Exit.inBlock, Exit.then]); (first | refine bodyPost_ret (results_none rfl _ _ _) rfl ?_ | refine bodyPost_end (results_none rfl _ _ _) rfl ?_))
          rw [oneF_none (by rw [HD0.out]; exact HF.out) (by simp [leads])]
          exact ⟨rfl, ⟨_, _, W1.out⟩, B1.out⟩
        · have t2 : (d != 2) = true := by simpa using hd2
          have HF : Hid (fineB (7, n, m) d = false) := by show _ = _; rw [FT.out]; simp [hd2]
          go_wp2
          ((try simp only [Exit.inBlock, Exit.then]); (first | refine bodyPost_ret (results_none rfl _ _ _) rfl ?_ | refine bodyPost_end (results_none rfl _ _ _) rfl ?_))
          rw [oneF_bad (by rw [HD0.out]; exact HF.out)]
          exact ⟨rfl, ⟨_, _, W1.out.no.1⟩, B1.out.trans W1.out.no.2⟩
      · have n7 : (c == 7) = false := by simpa using hc7
        have HF : Hid (fineB (c, n, m) d = true) := by show _ = _; rw [FT.out, FK.out]; simp [hc2, hc7]
        by_cases hc21 : c = 21
        · subst hc21
          go_wp2
          ((try simp only [Exit.inBlock, Exit.then]); (first | refine bodyPost_ret (results_none rfl _ _ _) rfl ?_ | refine bodyPost_end (results_none rfl _ _ _) rfl ?_))
          rw [oneF_none (by rw [HD0.out]; exact HF.out) (by simp [leads])]
          exact ⟨rfl, ⟨_, _, W1.out⟩, B1.out⟩
        · have n21 : (c == 21) = false := by simpa using hc21
          by_cases hc19 : c = 19
          · subst hc19
            have HL : Hid (leads a ((19 : Int), n, m) = [n]) := by show _ = _; simp [leads]
            obtain ⟨s, rfl⟩ : ∃ s : Nat, n = s := ⟨n.toNat, by have := HP.out n (by rw [HL.out]; simp); omega⟩
            go_wp2_with fail
            refine (l15Go_any w1 g _ vt D T ok s (d - k + p) W1.out hD (by omega) (by have := HG.out.2.1; omega) (by omega)).mono ?_
            rintro e w2 ⟨rfl, hk2, hb2⟩
            have K2 : Hid _ := hk2
            clear hk2
            go_wp2
            ((try simp only [Exit.inBlock, Exit.then]); (first | refine bodyPost_ret (results_none rfl _ _ _) rfl ?_ | refine bodyPost_end (results_none rfl _ _ _) rfl ?_))
            rw [oneF_one (by rw [HD0.out]; exact HF.out) HL.out, HD0.out, NX.out]
            exact ⟨rfl, K2.out, B1.out.trans hb2⟩
          · have n19 : (c == 19) = false := by simpa using hc19
            by_cases hc18 : c = 18
            · subst hc18
              have HL : Hid (leads a ((18 : Int), n, m) = [n, (a : Int) + 1]) := by show _ = _; simp [leads]
              obtain ⟨s, rfl⟩ : ∃ s : Nat, n = s := ⟨n.toNat, by have := HP.out n (by rw [HL.out]; simp); omega⟩
              go_wp2_with fail
              refine (l15Go_any w1 g _ vt D T ok s (d - k + p) W1.out hD (by omega) (by have := HG.out.2.1; omega) (by omega)).mono ?_
              rintro e w2 ⟨rfl, ⟨vd2, vt2, hk2⟩, hb2⟩
              have K2 : Hid (WK w2 g vd2 vt2 (goF D T ok s (d - k + p)).1 (goF D T ok s (d - k + p)).2.1 (goF D T ok s (d - k + p)).2.2) := hk2
              have hlen := goF_len D T ok s (d - k + p)
              have BB : Hid (Below g w w2) := B1.out.trans hb2
              clear hk2 hb2
              go_wp2_with fail
              refine (l15Go_any w2 g vd2 vt2 _ _ _ (a + 1) (d - k + p) K2.out (by omega) (by omega) (by omega) (by omega)).mono ?_
              rintro e w3 ⟨rfl, hk3, hb3⟩
              have K3 : Hid _ := hk3
              clear hk3
              go_wp2
              ((try simp only [Exit.inBlock, Exit.then]); (first | refine bodyPost_ret (results_none rfl _ _ _) rfl ?_ | refine bodyPost_end (results_none rfl _ _ _) rfl ?_))
              rw [oneF_two (by rw [HD0.out]; exact HF.out) HL.out, HD0.out, NX.out]
              exact ⟨rfl, K3.out, BB.out.trans hb3⟩
            · have n18 : (c == 18) = false := by simpa using hc18
              by_cases hc10 : c = 10
              · subst hc10
                have HL : Hid (leads a ((10 : Int), n, m) = [m, (a : Int) + 1]) := by show _ = _; simp [leads]
                obtain ⟨s, rfl⟩ : ∃ s : Nat, m = s := ⟨m.toNat, by have := HP.out m (by rw [HL.out]; simp); omega⟩
                go_wp2_with fail
                refine (l15Go_any w1 g _ vt D T ok s (d - k + p) W1.out hD (by omega) (by have := HG.out.2.2; omega) (by omega)).mono ?_
                rintro e w2 ⟨rfl, ⟨vd2, vt2, hk2⟩, hb2⟩
                have K2 : Hid (WK w2 g vd2 vt2 (goF D T ok s (d - k + p)).1 (goF D T ok s (d - k + p)).2.1 (goF D T ok s (d - k + p)).2.2) := hk2
                have hlen := goF_len D T ok s (d - k + p)
                have BB : Hid (Below g w w2) := B1.out.trans hb2
                clear hk2 hb2
                go_wp2_with fail
                refine (l15Go_any w2 g vd2 vt2 _ _ _ (a + 1) (d - k + p) K2.out (by omega) (by omega) (by omega) (by omega)).mono ?_
                rintro e w3 ⟨rfl, hk3, hb3⟩
                have K3 : Hid _ := hk3
                clear hk3
                go_wp2
                ((try simp only [Exit.inBlock, Exit.then]); (first | refine bodyPost_ret (results_none rfl _ _ _) rfl ?_ | refine bodyPost_end (results_none rfl _ _ _) rfl ?_))
                rw [oneF_two (by rw [HD0.out]; exact HF.out) HL.out, HD0.out, NX.out]
                exact ⟨rfl, K3.out, BB.out.trans hb3⟩
              · have n10 : (c == 10) = false := by simpa using hc10
                by_cases hc11 : c = 11
                · subst hc11
                  have HL : Hid (leads a ((11 : Int), n, m) = [m, (a : Int) + 1]) := by show _ = _; simp [leads]
                  obtain ⟨s, rfl⟩ : ∃ s : Nat, m = s := ⟨m.toNat, by have := HP.out m (by rw [HL.out]; simp); omega⟩
                  go_wp2_with fail
                  refine (l15Go_any w1 g _ vt D T ok s (d - k + p) W1.out hD (by omega) (by have := HG.out.2.2; omega) (by omega)).mono ?_
                  rintro e w2 ⟨rfl, ⟨vd2, vt2, hk2⟩, hb2⟩
                  have K2 : Hid (WK w2 g vd2 vt2 (goF D T ok s (d - k + p)).1 (goF D T ok s (d - k + p)).2.1 (goF D T ok s (d - k + p)).2.2) := hk2
                  have hlen := goF_len D T ok s (d - k + p)
                  have BB : Hid (Below g w w2) := B1.out.trans hb2
                  clear hk2 hb2
                  go_wp2_with fail
                  refine (l15Go_any w2 g vd2 vt2 _ _ _ (a + 1) (d - k + p) K2.out (by omega) (by omega) (by omega) (by omega)).mono ?_
                  rintro e w3 ⟨rfl, hk3, hb3⟩
                  have K3 : Hid _ := hk3
                  clear hk3
                  go_wp2
                  ((try simp only [Exit.inBlock, Exit.then]); (first | refine bodyPost_ret (results_none rfl _ _ _) rfl ?_ | refine bodyPost_end (results_none rfl _ _ _) rfl ?_))
                  rw [oneF_two (by rw [HD0.out]; exact HF.out) HL.out, HD0.out, NX.out]
                  exact ⟨rfl, K3.out, BB.out.trans hb3⟩
                · have n11 : (c == 11) = false := by simpa using hc11
                  have HL : Hid (leads a (c, n, m) = [(a : Int) + 1]) := by show _ = _; simp [leads, hc7, hc21, hc19, hc18, hc10, hc11]
                  go_wp2_with fail
                  refine (l15Go_any w1 g _ vt D T ok (a + 1) (d - k + p) W1.out hD (by omega) (by omega) (by omega)).mono ?_
                  rintro e w2 ⟨rfl, hk2, hb2⟩
                  have K2 : Hid _ := hk2
                  clear hk2
                  go_wp2
                  ((try simp only [Exit.inBlock, Exit.then]); (first | refine bodyPost_ret (results_none rfl _ _ _) rfl ?_ | refine bodyPost_end (results_none rfl _ _ _) rfl ?_))
                  rw [oneF_one (s := a + 1) (by rw [HD0.out]; exact HF.out) (by rw [HL.out]; simp), HD0.out, NX.out]
                  exact ⟨rfl, K2.out, B1.out.trans hb2⟩

end Go.Proofs.YtjibmpebebephaaGreatDoor.fun

namespace Go.Proofs.YtjibmpebebephaaGreatDoor.fun
open Go.RowKit Go.Proofs.YtjibmpebebephaaGreatDoor
set_option linter.unusedVariables false
set_option linter.unusedSimpArgs false

theorem ret_boolF {a b : Bool} (h : a = b) : Ending.returned (.bool a) = Ending.returned (.bool b) := by rw [h]

set_option maxHeartbeats 1000000 in
theorem in_is {n lo hi : Int} {b : Bool} {w : World} (h : inB n lo hi = b) :
    Calls Tryz.prog 23 #[.int .i64 n, .int .i64 lo, .int .i64 hi] w fun e w' => e = .returned (.bool b) ∧ w' = w := by
  by_cases h1 : lo ≤ n
  · go_enter Tryz.func23, Tryz.ntmps23
    go_wp2
    go_ret
    exact ⟨ret_boolF (by rw [← h]; simp [inB, h1]), rfl⟩
  · have h2 : decide (lo ≤ n) = false := decide_eq_false h1
    go_enter Tryz.func23, Tryz.ntmps23
    go_wp2
    go_ret
    exact ⟨ret_boolF (by rw [← h]; simp only [inB, h2, Bool.false_and]), rfl⟩

end Go.Proofs.YtjibmpebebephaaGreatDoor.fun

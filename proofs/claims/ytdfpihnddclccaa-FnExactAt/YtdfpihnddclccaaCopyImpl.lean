/-
  The program's copy of a value: the same in new memory that lies apart; nothing that was there is turned.
-/
import Derived.Test.YtdfpihnddclccaaCopyApp
import Derived.Test.YtdfpihnddclccaaCopySpec
import Derived.Test.YtdfpihnddclccaaCloneShelf
import Derived.Deep.RegionHeld3
import Derived.Deep.LoopGhost
import Derived.Laws.MakeOwn
import Derived.Deep.OwnRows
namespace Go.Proofs.Ytdfpihnddclccaa.value
open Go.RowKit Go.Proofs.Ytdfpihnddclccaa.rose Go.Proofs.Ytdfpihnddclccaa
set_option linter.unusedVariables false

theorem infoS : (Try.prog.info? 27).map (fun i => (i.zero, i.size, i.bytes)) = some (some (.slice none 0 0), 1, 24) := by kernel_rfl

theorem rn_le (T : ValueD) : rn T ≤ 1 + wt T := by
  induction T using ind with
  | h x ks ih =>
    have key : ∀ l : List ValueD, (∀ k ∈ l, rn k ≤ 1 + wt k) → rns l ≤ l.length + wts l := by
      intro l
      induction l with
      | nil => intro _; simp [rns]
      | cons a l ih2 =>
        intro h
        have h1 := h a (by simp)
        have h2 := ih2 fun k hk => h k (by simp [hk])
        simp only [rns, wts, List.length_cons]
        omega
    have := key ks ih
    obtain ⟨x0, x1, x2⟩ := x
    simp only [rn, wt]
    omega

theorem four (w : World) (A B C E : Obj) (WL : World) (h : WL = (((w.alloc A).alloc B).alloc C).alloc E) : WL.heap.size = w.heap.size + 4 ∧ Below w.heap.size w WL ∧ WL.heap[w.heap.size]? = some A ∧ WL.heap[w.heap.size + 1]? = some B ∧ WL.heap[w.heap.size + 2]? = some C ∧ WL.heap[w.heap.size + 3]? = some E := by
  subst h
  refine ⟨by simp, ((((Below.refl _ w).alloc (Nat.le_refl _) _).alloc (by simp) _).alloc (by simp <;> omega) _).alloc (by simp <;> omega) _, ?_, ?_, ?_, ?_⟩
  · rw [Below.heap_alloc _ _ _ (by simp <;> omega), Below.heap_alloc _ _ _ (by simp <;> omega), Below.heap_alloc _ _ _ (by simp)]; exact alloc_top _ _
  · rw [Below.heap_alloc _ _ _ (by simp <;> omega), Below.heap_alloc _ _ _ (by simp)]
    have := alloc_top (w.alloc A) B
    rwa [World.size_alloc] at this
  · rw [Below.heap_alloc _ _ _ (by simp)]
    have := alloc_top ((w.alloc A).alloc B) C
    rwa [World.size_alloc, World.size_alloc] at this
  · have := alloc_top (((w.alloc A).alloc B).alloc C) E
    rwa [World.size_alloc, World.size_alloc, World.size_alloc] at this

/-- What the loop keeps. -/
def CK (w WL wr : World) (T : ValueD) (v : Value) (st : List (CT Pay)) (D : Nat → Prop) : Prop :=
  CBs paySh 29 27 WL wr (w.heap.size + 2) (w.heap.size + 3) v st D ∧ CWand paySh wr D st (.slice (some ⟨w.heap.size + 2, 0, none⟩) 1 1) [T] ∧ ∀ k ∈ st, wts k.ts ≤ 1048576

theorem start_cp {w WL : World} {T : ValueD} {v0 v1 v2 v3 : Value} (hw : wt T ≤ 1048576) (h : valueSh.rep w (· < w.heap.size) [v0, v1, v2, v3] T) (hz : WL.heap.size = w.heap.size + 4) (hb : Below w.heap.size w WL)
    (k2 : WL.heap[w.heap.size + 2]? = some (.cells #[v0, v1, v2, v3] 29)) (k3 : WL.heap[w.heap.size + 3]? = some (.cells #[.slice (some ⟨w.heap.size + 2, 0, none⟩) 1 1] 27)) :
    CK w WL WL T (.slice (some ⟨w.heap.size + 3, 0, none⟩) 1 1) [⟨[T], .slice (some ⟨w.heap.size + 2, 0, none⟩) 1 1⟩] (fun _ => False) := by
  refine ⟨⟨Below.refl _ _, by omega, by omega, ?_, fun k hk => ?_, fun g hg => ?_, List.pairwise_singleton _ _, fun b hD => hD.elim⟩, CWand.first _ ⟨[T], _⟩, fun k hk => ?_⟩
  · exact ⟨rfl, Or.inr ⟨w.heap.size + 3, 1, _, rfl, Nat.le_refl _, k3, Nat.le_refl _, by unfold maxLen; omega, rfl, by simp [crows]⟩⟩
  · obtain rfl := List.mem_singleton.1 hk
    refine Or.inr ⟨w.heap.size + 2, 1, _, fun _ => [v0, v1, v2, v3], rfl, by simp, by simp, by unfold maxLen; omega, k2, by simp [paySh, Sh.pair, Sh.int, Sh.str], Nat.le_refl _, fun h => h, fun i hi => ?_⟩
    obtain rfl : i = 0 := by simpa using hi
    refine ⟨fun j u hj => ?_, valueSh.mono (valueSh.below h hb) fun b hlt => ?_⟩
    · simp only [World.cell?, Nat.zero_mul, Nat.zero_add, k2]
      simpa using hj
    · show b < _; omega
  · simp only [Value.ownBlock, Option.some.injEq] at hg
    subst hg
    refine ⟨fun k hk => ?_, fun h => h⟩
    obtain rfl := List.mem_singleton.1 hk
    simp [Value.ownBlock]
  · obtain rfl := List.mem_singleton.1 hk
    simp [wts]; omega

theorem cell_set_blk {w : World} {b o q c : Nat} {v : Value} (h : q ≠ b) : (w.setCell ⟨b, o, none⟩ v).cell? ⟨q, c, none⟩ = w.cell? ⟨q, c, none⟩ := World.cell?_of_block (w := w) (a := ⟨q, c, none⟩) (Below.heap_setCell _ _ _ _ h)

set_option maxRecDepth 100000 in
set_option maxHeartbeats 4000000 in
theorem implCopied (T : ValueD) (cs : List Value) (w : World) (hw : wt T ≤ 1048576) (h : valueSh.rep w (· < w.heap.size) cs T) :
    Calls Try.prog 18 #[.agg cs.toArray] w fun e w' => (∃ cs', e = .returned (.agg cs'.toArray) ∧ valueSp.rep w' (fun b => w.heap.size ≤ b ∧ b < w'.heap.size) cs' T) ∧ Below w.heap.size w w' := by
  obtain ⟨v0, v1, v2, v3, rfl⟩ := value_list h
  have HT : Hid (valueSh.rep w (· < w.heap.size) [v0, v1, v2, v3] T) := h
  have o0 := valueSh.one h v0 (by simp)
  have o1 := valueSh.one h v1 (by simp)
  have o2 := valueSh.one h v2 (by simp)
  have o3 := valueSh.one h v3 (by simp)
  clear h
  obtain ⟨ti, hti, hzz⟩ := Option.map_eq_some_iff.1 infoS
  simp only [Prod.mk.injEq] at hzz
  obtain ⟨hz0, hz1, hz2⟩ := hzz
  have TI : Hid (Try.prog.info? 27 = some ti ∧ ti.zero = some (.slice none 0 0) ∧ ti.size = 1 ∧ ti.bytes = 24) := ⟨hti, hz0, hz1, hz2⟩
  clear hti hz0 hz1 hz2
  obtain ⟨tj, hti, hzz⟩ := Option.map_eq_some_iff.1 infoV
  simp only [Prod.mk.injEq] at hzz
  obtain ⟨hz0, hz1, hz2⟩ := hzz
  have TJ : Hid (Try.prog.info? 29 = some tj ∧ tj.zero = some (.agg #[.int .i64 0, .int .i64 0, .string ⟨#[]⟩, .slice none 0 0]) ∧ tj.size = 4 ∧ tj.bytes = 56) := ⟨hti, hz0, hz1, hz2⟩
  clear hti hz0 hz1 hz2
  go_enter Try.func18, Try.ntmps18
  go_wp2
  obtain ⟨WL, hWL⟩ : ∃ WL, WL = (((w.alloc (.cells #[v0, v1, v2, v3] 29)).alloc (.cells #[.int .i64 0, .int .i64 0, .string ⟨#[]⟩, .slice none 0 0] 29)).alloc (.cells #[v0, v1, v2, v3] 29)).alloc (.cells #[.slice (some ⟨w.heap.size + 2, 0, none⟩) 1 1] 27) := ⟨_, rfl⟩
  obtain ⟨z0, b0, -, k1, k2, k3⟩ := four w _ _ _ _ WL hWL
  have B0 : Hid (CK w WL WL T (.slice (some ⟨w.heap.size + 3, 0, none⟩) 1 1) [⟨[T], .slice (some ⟨w.heap.size + 2, 0, none⟩) 1 1⟩] (fun _ => False)) := start_cp hw HT.out z0 b0 k2 k3
  have WW : Hid (WL.heap.size = w.heap.size + 4 ∧ Below w.heap.size w WL ∧ WL.heap[w.heap.size + 1]? = some (.cells #[.int .i64 0, .int .i64 0, .string ⟨#[]⟩, .slice none 0 0] 29)) := ⟨z0, b0, k1⟩
  have hnn : 2 * rn T + 1 ≤ 2097155 := by have := rn_le T; omega
  first | rw [← hWL] | skip
  clear z0 b0 k1 k2 k3 hWL
  go_loopg [4] (2 * rn T + 1) (fun k v4 wr => ∃ (st : List (CT Pay)) (D : Nat → Prop), k = 2 * cnodes st + st.length ∧ k ≤ 2097155 ∧ Hid (CK w WL wr T v4 st D))
  case atStart => exact ⟨_, _, by simp [cnodes, rns], hnn, B0⟩
  case round =>
    obtain ⟨st, D, hk, hkb, HI⟩ := hrel
    clear B0
    cases st with
    | nil =>
      have HS := HI.out.2.1.last
      obtain ⟨aw, cw, css, F, e, -, -, -, hrow⟩ := HS
      simp only [List.length_singleton, List.cons.injEq, Value.slice.injEq, and_true] at e
      obtain ⟨rfl, -, rfl⟩ := e
      obtain ⟨b1, o1', cur, t1, e1, hD1, -, hF1, hc1⟩ := hrow.row (by simp)
      simp only [Option.some.injEq, Addr.mk.injEq, and_true] at e1
      obtain ⟨rfl, rfl⟩ := e1
      have hrep := hrow.rep 0 (by simp)
      have hc := hc1 0 (by simp)
      have hsub := hrow.sub 0 (by simp)
      obtain ⟨n0, n1, n2, n3, hcs⟩ := value_list (valuep_rep hrep)
      rw [hcs] at hrep hc
      have on0 := valueSp.one hrep n0 (by simp)
      have on1 := valueSp.one hrep n1 (by simp)
      have on2 := valueSp.one hrep n2 (by simp)
      have on3 := valueSp.one hrep n3 (by simp)
      have so0 := fun (a : Addr) (m : Mode) (w : World) => run_store Try.prog w a n0 m on0
      have so1 := fun (a : Addr) (m : Mode) (w : World) => run_store Try.prog w a n1 m on1
      have so2 := fun (a : Addr) (m : Mode) (w : World) => run_store Try.prog w a n2 m on2
      have so3 := fun (a : Addr) (m : Mode) (w : World) => run_store Try.prog w a n3 m on3
      have g0 : wr.cell? ⟨w.heap.size + 1 + 1, 0, none⟩ = some n0 := hc 0 _ rfl
      have g1 : wr.cell? ⟨w.heap.size + 1 + 1, 1, none⟩ = some n1 := hc 1 _ rfl
      have g2 : wr.cell? ⟨w.heap.size + 1 + 1, 2, none⟩ = some n2 := hc 2 _ rfl
      have g3 : wr.cell? ⟨w.heap.size + 1 + 1, 3, none⟩ = some n3 := hc 3 _ rfl
      have hres := (HI.out.1.bel.block (w.heap.size + 1) (by omega)).trans WW.out.2.2
      have r0 : wr.cell? ⟨w.heap.size + 1, 0, none⟩ = some (.int .i64 0) := blk_cell (i := 0) hres rfl
      have r1 : wr.cell? ⟨w.heap.size + 1, 1, none⟩ = some (.int .i64 0) := blk_cell (i := 1) hres rfl
      have r2 : wr.cell? ⟨w.heap.size + 1, 2, none⟩ = some (.string ⟨#[]⟩) := blk_cell (i := 2) hres rfl
      have r3 : wr.cell? ⟨w.heap.size + 1, 3, none⟩ = some (.slice none 0 0) := blk_cell (i := 3) hres rfl
      have fr : ∀ o, wr.frozen? ⟨w.heap.size + 1, o, none⟩ = false := fun o => blk_free hres
      obtain ⟨av, cv, hv⟩ : ∃ a c, u4 = .slice a 0 c := by
        rcases HI.out.1.row.2 with ⟨rfl, _⟩ | ⟨q, cap, cur, h1, _⟩
        · exact ⟨_, _, rfl⟩
        · exact ⟨_, _, h1⟩
      have HH : Hid (valueSp.rep wr (F 0) [n0, n1, n2, n3] T ∧ (∀ b, F 0 b → D b) ∧ (∀ b, D b → w.heap.size + 2 ≤ b ∧ b < wr.heap.size) ∧ Below w.heap.size w wr) := ⟨hrep, hsub, HI.out.1.dn, WW.out.2.1.trans (HI.out.1.bel.mono (by omega))⟩
      subst hv
      clear hrep hc hsub hrow hcs HI hF1 hc1 hD1 hres
      go_wp2
      refine bodyPost_ret (v := .agg #[n0, n1, n2, n3]) (by simp [results, Try.f18, go_sem, r0, r1, r2, r3]) rfl ?_
      obtain ⟨hrep, hsub, hdn, hB⟩ := HH.out
      refine ⟨⟨[n0, n1, n2, n3], by rfl, ?_⟩, ?_⟩
      · refine valueSp.mono (valueSp.on hrep fun b hS => ?_) fun b hS => ?_
        · have := (hdn b (hsub b hS)).1
          repeat rw [Below.heap_setCell _ _ _ _ (by simp; omega)]
        · have := hdn b (hsub b hS)
          exact ⟨by omega, by simp [World.setCell]; exact this.2⟩
      · repeat first | with_reducible exact hB | (refine Below.setCell ?_ (by first | (simp; done) | (simp; omega)) _)
    | cons k st =>
      obtain ⟨ts, vv⟩ := k
      obtain ⟨gs, cap, hv, hcp1, hcp2⟩ := HI.out.1.slice
      subst hv
      have d0 := HI.out.1.top
      simp only at d0
      have hcpi : (st.length : Int) + 1 ≤ cap ∧ (cap : Int) ≤ 9223372036854775807 := by unfold maxLen at hcp2; omega
      obtain ⟨hci1, hci2⟩ := hcpi
      by_cases h0 : ts.length = 0
      · obtain rfl : ts = [] := List.eq_nil_of_length_eq_zero h0
        obtain ⟨hvv, hB, hW⟩ := CBs.none HI.out.1 HI.out.2.1
        subst hvv
        have NX : Hid (CK w WL wr T (.slice (some ⟨gs, 0, none⟩) st.length cap) st D) := ⟨hB, hW, fun k hk => HI.out.2.2 k (List.mem_cons_of_mem _ hk)⟩
        have hk' : gk = 2 * cnodes st + (st.length + 1) := by rw [hk]; simp [cnodes, rns]
        have HK : Hid (gk = 2 * cnodes st + (st.length + 1)) := hk'
        clear HI hB hW hk hk' h0 hcp1 hcp2
        obtain ⟨wo, rfl⟩ : ∃ wo, wo = wr := ⟨_, rfl⟩
        go_wp2
        go_loopw [4, 29] (fun u4 u29 wi => u4 = .slice (some ⟨gs, 0, none⟩) st.length cap ∧ u29 = .int .i64 0 ∧ Hid (wi = wo)) (fun _ _ _ => 0)
        case atStart => exact ⟨rfl, rfl, rfl⟩
        case round =>
          obtain ⟨rfl, rfl, HE⟩ := hrel
          go_wp2
          go_roundg (2 * cnodes st + st.length)
          case rel => exact ⟨st, D, rfl, by have := HK.out; omega, by rw [HE.out]; exact NX⟩
          case measure => have := HK.out; omega
      · obtain ⟨g, c, hvv, hc1, hc2, IN0⟩ := CIn.start (gk := gk) HI.out.1 HI.out.2.1 (by omega) hk.symm
        subst hvv
        have hn1 : (ts.length : Int) ≤ c ∧ (c : Int) ≤ 9223372036854775807 := by unfold maxLen at hc2; omega
        obtain ⟨hn1, hn2⟩ := hn1
        have hn3 : (ts.length : Int) ≤ 9223372036854775807 := by omega
        have IN : Hid (CIn paySh 29 27 WL wr (w.heap.size + 2) (w.heap.size + 3) (.slice (some ⟨gs, 0, none⟩) st.length cap) st D ts g 0 (.slice (some ⟨w.heap.size + 2, 0, none⟩) 1 1) [T] gk ∧ ∀ k ∈ st, wts k.ts ≤ 1048576) := ⟨IN0, fun k hk => HI.out.2.2 k (List.mem_cons_of_mem _ hk)⟩
        have HWT : Hid (wts ts ≤ 1048576) := HI.out.2.2 _ List.mem_cons_self
        clear HI IN0 hk h0 hcp1 hcp2 hc1 hc2
        obtain ⟨wo, rfl⟩ : ∃ wo, wo = wr := ⟨_, rfl⟩
        go_wp2
        go_loopw [4, 29] (fun u4 u29 wi => ∃ (i : Nat) (st2 : List (CT Pay)), i ≤ ts.length ∧ u29 = .int .i64 i ∧ Hid (CIn paySh 29 27 WL wi (w.heap.size + 2) (w.heap.size + 3) u4 st2 D ts g i (.slice (some ⟨w.heap.size + 2, 0, none⟩) 1 1) [T] gk ∧ ∀ k ∈ st2, wts k.ts ≤ 1048576)) (fun _ u29 _ => ts.length - (intOf u29).toNat)
        case atStart => exact ⟨0, st, Nat.zero_le _, rfl, IN⟩
        case round =>
          obtain ⟨i, st2, hi, rfl, HJ⟩ := hrel
          clear IN
          by_cases hlt : i < ts.length
          · obtain ⟨css, hsrc⟩ := HJ.out.1.src
            obtain ⟨hc, hrep⟩ := hsrc i hlt (Nat.le_refl _)
            obtain ⟨x0, x1, x2, x3, a3, c3, hT, hcs, f0, f1, f2, f3⟩ := value_open hrep
            rw [hcs] at hc
            have e0 : wr.cell? ⟨g, i * 4, none⟩ = some (.int .i64 x0) := hc 0 _ rfl
            have e1 : wr.cell? ⟨g, i * 4 + 1, none⟩ = some (.int .i64 x1) := hc 1 _ rfl
            have e2 : wr.cell? ⟨g, i * 4 + 2, none⟩ = some (.string x2) := hc 2 _ rfl
            have e3 : wr.cell? ⟨g, i * 4 + 3, none⟩ = some (.slice a3 x3.length c3) := hc 3 _ rfl
            have HF : Hid ((-9223372036854775808 ≤ x0 ∧ x0 ≤ 9223372036854775807) ∧ (-9223372036854775808 ≤ x1 ∧ x1 ≤ 9223372036854775807) ∧ x2.size ≤ maxLen) := ⟨f0, f1, f2⟩
            have HK3 : Hid (valueSh.slice.rep WL (· < w.heap.size + 2) [.slice a3 x3.length c3] x3) := f3
            have HTi : Hid (ts[i] = .mk (x0, x1, x2) x3) := hT
            have hbd : x2.size ≤ 1048576 ∧ x3.length ≤ 1048576 ∧ wts x3 ≤ 1048576 := by
              have h1 := wt_mem (List.getElem_mem hlt)
              have h3 := HWT.out
              rw [hT] at h1
              simp only [wt] at h1
              omega
            obtain ⟨hb2, hb3, hb4⟩ := hbd
            obtain ⟨cur, hcur, hcs4⟩ := HJ.out.1.gb
            have hgl := HJ.out.1.glt
            have hPg : wr.heap.size ≠ g := by omega
            have GB : Hid (wr.heap[g]? = some (.cells cur 29) ∧ ts.length * 4 ≤ cur.size) := ⟨hcur, hcs4⟩
            clear f0 f1 f2 f3 hrep hcs hc hsrc hT hcur hcs4
            go_wp2_with (first
              | (at_builtin
                 refine wpList_append_all (A := paySh) (w1 := WL) (lo := w.heap.size + 2) (xs := x3) _ rfl _ _ rfl Try.underlying27 TJ.out.1 TJ.out.2.1 TJ.out.2.2.1 TJ.out.2.2.2 rfl rfl rfl HK3.out (HJ.out.1.bs.bel.trans (((Below.refl _ wr).alloc (Nat.le_refl _) _).mono (by have := HJ.out.1.bs.size; have := HJ.out.1.bs.low; omega))) (by have := HJ.out.1.bs.size; simp; omega) (by omega) ?_
                 intro ka kl kc w2 hbA hctA hownA)
              | fail)
            have hAl : Below wr.heap.size wr (wr.alloc (.cells #[.int .i64 x0, .int .i64 x1, .string x2, .slice a3 x3.length c3] 29)) := (Below.refl _ _).alloc (Nat.le_refl _) _
            have hzA : (wr.alloc (.cells #[.int .i64 x0, .int .i64 x1, .string x2, .slice a3 x3.length c3] 29)).heap.size = wr.heap.size + 1 := by simp
            have hka := alloc_top wr (.cells #[.int .i64 x0, .int .i64 x1, .string x2, .slice a3 x3.length c3] 29)
            obtain ⟨wa, hwa⟩ : ∃ wa, wa = wr.alloc (.cells #[.int .i64 x0, .int .i64 x1, .string x2, .slice a3 x3.length c3] 29) := ⟨_, rfl⟩
            rw [← hwa] at hAl hzA hka hbA hctA hownA
            clear hwa
            have hk2 := (hbA.block wr.heap.size (by omega)).trans hka
            have hz2 : wr.heap.size + 1 ≤ w2.heap.size := by have := hbA.size; omega
            have p0 : w2.cell? ⟨wr.heap.size, 0, none⟩ = some (.int .i64 x0) := blk_cell (i := 0) hk2 rfl
            have p1 : w2.cell? ⟨wr.heap.size, 1, none⟩ = some (.int .i64 x1) := blk_cell (i := 1) hk2 rfl
            have p2 : w2.cell? ⟨wr.heap.size, 2, none⟩ = some (.string x2) := blk_cell (i := 2) hk2 rfl
            have BA : Hid (Below wr.heap.size wr w2) := hAl.trans (hbA.mono (by omega))
            have HCT : Hid ((∀ D : Nat → Prop, (∀ b, D b → b < wr.heap.size) → CTok paySh 29 WL w2 (w.heap.size + 2) D ⟨x3, .slice ka kl kc⟩) ∧ ∀ q, (Value.slice ka kl kc).ownBlock = some q → wr.heap.size ≤ q) := ⟨fun D hD => hctA D fun b hb => by have := hD b hb; omega, fun q e => by have := hownA q e; omega⟩
            have PP : Hid (w2.cell? ⟨wr.heap.size, 0, none⟩ = some (.int .i64 x0) ∧ w2.cell? ⟨wr.heap.size, 1, none⟩ = some (.int .i64 x1) ∧ w2.cell? ⟨wr.heap.size, 2, none⟩ = some (.string x2)) := ⟨p0, p1, p2⟩
            clear hbA hctA hownA hka hk2 hAl hzA e0 e1 e2 e3
            have hii : (i : Int) < (ts.length : Int) := by omega
            go_region_held3 (fun W => W.cell? ⟨wr.heap.size, 0, none⟩ = some (.int .i64 x0) ∧ W.cell? ⟨wr.heap.size, 1, none⟩ = some (.int .i64 x1) ∧ W.cell? ⟨wr.heap.size, 2, none⟩ = some (.string x2))
              (exact ⟨(by first | with_reducible exact p0 | ((repeat rw [cell_set_blk hPg]); with_reducible exact p0) | (show w2.cell? _ = _; with_reducible exact p0)), (by first | with_reducible exact p1 | ((repeat rw [cell_set_blk hPg]); with_reducible exact p1) | (show w2.cell? _ = _; with_reducible exact p1)), (by first | with_reducible exact p2 | ((repeat rw [cell_set_blk hPg]); with_reducible exact p2) | (show w2.cell? _ = _; with_reducible exact p2))⟩)
              (first
                | (go_at_call 22; refine (Try.strings_Clone x2 _ (by omega)).mono ?_
                   rintro e w3 ⟨rfl, hb⟩
                   have hb3 : Below w2.heap.size w2 w3 := (Below.refl _ w2).drew.trans hb
                   replace p0 : w3.cell? ⟨wr.heap.size, 0, none⟩ = some (.int .i64 x0) := (hb3.cell (p := ⟨wr.heap.size, 0, none⟩) (show wr.heap.size < _ by omega)).trans PP.out.1
                   replace p1 : w3.cell? ⟨wr.heap.size, 1, none⟩ = some (.int .i64 x1) := (hb3.cell (p := ⟨wr.heap.size, 1, none⟩) (show wr.heap.size < _ by omega)).trans PP.out.2.1
                   replace p2 : w3.cell? ⟨wr.heap.size, 2, none⟩ = some (.string x2) := (hb3.cell (p := ⟨wr.heap.size, 2, none⟩) (show wr.heap.size < _ by omega)).trans PP.out.2.2
                   have G3 : Hid (w3.heap[g]? = some (.cells cur 29)) := (hb3.block g (by omega)).trans ((BA.out.block g hgl).trans GB.out.1)
                   have fz : ∀ q, w3.frozen? ⟨g, q, none⟩ = false := fun q => blk_free G3.out
                   obtain ⟨q0, y0⟩ : ∃ q, w3.cell? ⟨g, i * 4, none⟩ = some q := ⟨cur[i * 4]'(by have := GB.out.2; omega), by simp [World.cell?, G3.out]⟩
                   obtain ⟨q1, y1⟩ : ∃ q, w3.cell? ⟨g, i * 4 + 1, none⟩ = some q := ⟨cur[i * 4 + 1]'(by have := GB.out.2; omega), by simp [World.cell?, G3.out]⟩
                   obtain ⟨q2, y2⟩ : ∃ q, w3.cell? ⟨g, i * 4 + 2, none⟩ = some q := ⟨cur[i * 4 + 2]'(by have := GB.out.2; omega), by simp [World.cell?, G3.out]⟩
                   obtain ⟨q3, y3⟩ : ∃ q, w3.cell? ⟨g, i * 4 + 3, none⟩ = some q := ⟨cur[i * 4 + 3]'(by have := GB.out.2; omega), by simp [World.cell?, G3.out]⟩
                   have B3 : Hid (Below w2.heap.size w2 w3) := hb3
                   clear hb hb3))
            all_goals
              obtain ⟨w4, hw4⟩ : ∃ w4, w4 = ((((w3.setCell ⟨g, i * 4, none⟩ (.int .i64 x0)).setCell ⟨g, i * 4 + 1, none⟩ (.int .i64 x1)).setCell ⟨g, i * 4 + 2, none⟩ (.string x2)).setCell ⟨g, i * 4 + 3, none⟩ (.slice ka kl kc)) := ⟨_, rfl⟩
              rw [← hw4]
              have hset : w4 = w3.setCells g (i * 4) [.int .i64 x0, .int .i64 x1, .string x2, .slice ka kl kc] := hw4
              obtain ⟨m1, m2, m3, m4, m5, m6⟩ := put_cells (i := i) (K := 4) G3.out (by have := GB.out.2; omega) [.int .i64 x0, .int .i64 x1, .string x2, .slice ka kl kc] rfl
              rw [← hset] at m1 m2 m3 m4 m5 m6
              have hlow := HJ.out.1.bs.low
              have hsize := HJ.out.1.bs.size
              have hz3 : w2.heap.size ≤ w3.heap.size := B3.out.size
              have MB : Hid (Below (w.heap.size + 2) WL w4) := HJ.out.1.bs.bel.trans ((BA.out.mono (by omega)).trans ((B3.out.mono (by omega)).trans (m6 _ HJ.out.1.gr.1)))
              have MS : Hid (∀ b, b < wr.heap.size → b ≠ g → w4.heap[b]? = wr.heap[b]?) := fun b h1 h2 => (m2 b h2).trans ((B3.out.block b (by omega)).trans (BA.out.block b h1))
              have MO : Hid (∀ q, (q < i * 4 ∨ (i + 1) * 4 ≤ q) → w4.cell? ⟨g, q, none⟩ = wr.cell? ⟨g, q, none⟩) := fun q hq => (m5 q hq).trans ((B3.out.cell (p := ⟨g, q, none⟩) (show g < _ by omega)).trans (BA.out.cell (p := ⟨g, q, none⟩) hgl))
              have M3 : Hid (∃ cur, w4.heap[g]? = some (.cells cur 29) ∧ ts.length * 4 ≤ cur.size) := by obtain ⟨c', h1, h2⟩ := m3; exact ⟨c', h1, by rw [h2]; exact GB.out.2⟩
              have M4 : Hid (CellsAt w4 g (i * 4) [.int .i64 x0, .int .i64 x1, .string x2, .slice ka kl kc]) := m4
              have hz4 : wr.heap.size + 1 ≤ w4.heap.size := by omega
              have HC4 : Hid (CTok paySh 29 WL w4 (w.heap.size + 2) D ⟨x3, .slice ka kl kc⟩) := by
                refine (HCT.out.1 D fun b hb => (HJ.out.1.bs.dn b hb).2).on fun q e hq => ?_
                have := HCT.out.2 q e
                exact (m2 q (by omega)).trans (B3.out.block q hq)
              have HLW : Hid (w.heap.size + 3 ≤ wr.heap.size ∧ w.heap.size + 2 ≤ w.heap.size + 3) := ⟨hsize, hlow⟩
              clear hw4 hset m1 m2 m3 m4 m5 m6 G3 fz y0 y1 y2 y3 B3 PP p0 p1 p2 hz3 hlow hsize
              have RW : Hid (wr.ownsRow (w.heap.size + 3) 27 1 u4 st2.length (crows st2)) := HJ.out.1.bs.row
              have HNO : Hid (u4.ownBlock ≠ some g) := HJ.out.1.gr.2.2.1
              have RA : Hid (World.ownsRow (w4.alloc (.cells #[.slice ka kl kc] 27)) (w.heap.size + 3) 27 1 u4 st2.length (crows st2)) := by
                obtain ⟨hl, hv⟩ := RW.out
                refine ⟨hl, ?_⟩
                rcases hv with h0 | ⟨q, cp, cr, h1, h2, h3, h4⟩
                · exact Or.inl h0
                · have hq := (Array.getElem?_eq_some_iff.1 h3).1
                  have hqg : q ≠ g := fun e => HNO.out (by rw [h1, ← e]; rfl)
                  exact Or.inr ⟨q, cp, cr, h1, h2, by rw [Below.heap_alloc _ _ _ (by omega), MS.out q hq hqg]; exact h3, h4⟩
              have LST : Hid (st2.length ≤ 2097155) := by
                show _ ≤ _
                have h1 := HJ.out.1.cnt
                omega
              have NEW : Hid _ := cell_one_new w4 (.slice ka kl kc) 27
              go_wp2_with (first
                | (at_builtin
                   refine wpList_append_own_at _ rfl _ _ 44 rfl (w.heap.size + 3) 27 ti _ 1 24 Try.underlying44 TI.out.1 TI.out.2.1 TI.out.2.2.1 TI.out.2.2.2 rfl (by decide) u4 st2.length _ rfl RA.out ⟨w4.heap.size, 0, none⟩ 1 1 _ rfl rfl NEW.out (by simp [Value.oneCell']) (by unfold maxLen; have := LST.out; omega) (by have := LST.out; omega) (by have := HLW.out; simp; omega) ?_
                   intro v' w5 hown5 hgrow5 _ hat5)
                | fail)
              have NX : Hid (CIn paySh 29 27 WL w5 (w.heap.size + 2) (w.heap.size + 3) v' (⟨x3, .slice ka kl kc⟩ :: st2) D ts g (i + 1) (.slice (some ⟨w.heap.size + 2, 0, none⟩) 1 1) [T] gk ∧ ∀ k ∈ (⟨x3, .slice ka kl kc⟩ : CT Pay) :: st2, wts k.ts ≤ 1048576) := by
                refine ⟨HJ.out.1.more (k := ⟨x3, .slice ka kl kc⟩) (cs := [.int .i64 x0, .int .i64 x1, .string x2, .slice ka kl kc]) (w3 := w4) (w4 := w4.alloc (.cells #[.slice ka kl kc] 27)) hlt MB.out (by omega) MS.out M3.out MO.out M4.out rfl ?_ (by rw [HTi.out]; rfl) HC4.out HCT.out.2 ((Below.refl _ w4).alloc (Nat.le_refl _) _) hown5 hgrow5 hat5, fun k hk => ?_⟩
                · intro w' F hF
                  rw [HTi.out]
                  exact valuep_shutv HF.out.1 HF.out.2.1 HF.out.2.2 hF
                · rcases List.mem_cons.1 hk with rfl | hk
                  · exact hb4
                  · exact HJ.out.2 k hk
              refine ⟨⟨i + 1, _, by omega, by go_num, NX⟩, by simp [intOf]; omega⟩
          · obtain rfl : i = ts.length := by omega
            obtain ⟨h1, h2, h3⟩ := HJ.out.1.done
            have HD : Hid (CK w WL wr T u4 st2 (fun b => D b ∨ b = g)) := ⟨h1, h2, HJ.out.2⟩
            clear h1 h2 HJ
            go_wp2
            go_roundg (2 * cnodes st2 + st2.length)
            case rel => exact ⟨st2, _, rfl, by omega, HD⟩
            case measure => omega

end Go.Proofs.Ytdfpihnddclccaa.value

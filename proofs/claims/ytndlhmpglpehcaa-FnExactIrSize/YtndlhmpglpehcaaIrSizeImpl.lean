/-
  The program's IrSize, at every tree that lies in rows of cells which nothing froze: how many are within it; nothing that was there is turned.
-/
import Derived.Test.YtndlhmpglpehcaaIrSizeImpl1
import Derived.Deep.RegionHeld3
import Derived.Sort.AtCall
namespace Go.Proofs.Ytndlhmpglpehcaa.ir
open Go Go.RowKit Go.Deep Go.Proofs.Ytndlhmpglpehcaa.rose Go.Proofs.Ytndlhmpglpehcaa
set_option linter.unusedVariables false
set_option linter.unusedSimpArgs false

set_option maxRecDepth 100000 in
theorem info_ir1 : (Try.prog.info? 29).map (fun i => i.size) = some 3 := by kernel_rfl
set_option maxRecDepth 100000 in
theorem info_count : (Try.prog.info? 37).map (fun i => (i.zero, i.size, i.bytes)) = some (some (.agg #[.slice none 0 0, .int .i64 0, .int .i64 0]), 3, 40) := by kernel_rfl
set_option maxRecDepth 100000 in
theorem spot_fields : (Try.prog.underlying 42).map (fun d => match d with | .struct fs => fs.toList.map (fun f => (f.name, f.type, f.offset)) | _ => []) = some [("first", 40, 0), ("many", 3, 1)] := by kernel_rfl
set_option maxRecDepth 100000 in
theorem spot_held : Try.prog.stoodInHeld 42 = false := by kernel_rfl

/-- The keys of the map. -/
theorem spot_kind : ∃ K : KeyKind Try.prog 42 (Option Addr × Int), K.enc = spotEnc ∧ ∀ w p, K.ok w p ↔ ∀ x, p.1 = some x → Plain w x.block := by
  obtain ⟨ti, hti, hsz⟩ := Option.map_eq_some_iff.1 info_ir1
  obtain ⟨d, hd, hfs⟩ := Option.map_eq_some_iff.1 spot_fields
  cases d with
  | struct fs => exact ⟨spotKind fs hd hfs (by decide) (by decide) spot_held Try.underlying40 hti (by omega) Try.underlying3, rfl, fun _ _ => Iff.rfl⟩
  | _ => simp at hfs

/-- The cells of a new block. -/
theorem cells_new (w : World) (cs : List Value) (t : TypeId) (arr : Array Value) (ha : arr = cs.toArray) : ∀ j u, cs[j]? = some u → (w.alloc (.cells arr t)).cell? ((⟨w.heap.size, 0, none⟩ : Addr).add j) = some u := by
  subst ha
  intro j u hj
  have hh : (w.alloc (.cells cs.toArray t)).heap[w.heap.size]? = some (.cells cs.toArray t) := alloc_top w (.cells cs.toArray t)
  rw [add_plain, Nat.zero_add]
  simp only [World.cell?, hh]
  simpa using hj

theorem ret_n {a b : Nat} (h : a = b) : Ending.returned (.int .i64 (a : Int)) = Ending.returned (.int .i64 (b : Int)) := by rw [h]

/-- The whole, as a list of one. -/
theorem one_row {w : World} {S : Nat → Prop} {g : Nat} {c0 c1 c2 : Value} {t : TypeId} {X : IrD} (hg : w.heap[g]? = some (.cells #[c0, c1, c2] t)) (hS : S g) (hr : irSh.rep w S [c0, c1, c2] X) : irSh.slice.rep w S [.slice (some ⟨g, 0, none⟩) 1 1] [X] := by
  refine ⟨some ⟨g, 0, none⟩, 1, fun _ => [c0, c1, c2], rfl, Nat.le_refl _, by unfold maxLen; omega, (fun h => by cases h), fun i hi => ⟨g, 0, rfl, hS, ?_⟩, fun i hi => ?_⟩
  · have : i = 0 := by simp at hi; omega
    subst this
    intro j u hj
    have hj4 : j < 3 := by
      rcases Nat.lt_or_ge j 3 with h | h
      · exact h
      · rw [List.getElem?_eq_none (by simpa using h)] at hj; cases hj
    simp only [World.cell?, hg]
    have : j = 0 ∨ j = 1 ∨ j = 2 := by omega
    rcases this with rfl | rfl | rfl <;> simpa using hj
  · have : i = 0 := by simp at hi; omega
    subst this
    exact hr

set_option maxRecDepth 100000 in
set_option maxHeartbeats 4000000 in
theorem implIrSize (T : IrD) (cs : List Value) (w : World) (hw : wt T ≤ 1048576) (h : irSh.rep w (fun b => b < w.heap.size ∧ Plain w b) cs T) :
    Calls Try.prog 7 #[.agg cs.toArray] w fun e w' => e = .returned (.int .i64 (cnt T : Nat)) ∧ Below w.heap.size w w' := by
  obtain ⟨K, hKe, hKo⟩ := spot_kind
  obtain ⟨ti, hti, hzz⟩ := Option.map_eq_some_iff.1 info_count
  simp only [Prod.mk.injEq] at hzz
  obtain ⟨hz0, hz1, hz2⟩ := hzz
  have TI : Hid (Try.prog.info? 37 = some ti ∧ ti.zero = some (.agg #[.slice none 0 0, .int .i64 0, .int .i64 0]) ∧ ti.size = 3 ∧ ti.bytes = 40) := ⟨hti, hz0, hz1, hz2⟩
  have HK : Hid (K.enc = spotEnc ∧ ∀ w p, K.ok w p ↔ ∀ x, p.1 = some x → Plain w x.block) := ⟨hKe, hKo⟩
  clear hti hz0 hz1 hz2 hKe hKo
  have one := irSh.one h
  obtain ⟨v0, v1, v2, rfl⟩ := ir_list h
  have o0 := one v0 (by simp)
  have o1 := one v1 (by simp)
  have o2 := one v2 (by simp)
  have HT : Hid _ := h
  clear one h
  have hmm := @run_makeMap Try.prog
  obtain ⟨n, hn⟩ : ∃ n, n = w.heap.size := ⟨_, rfl⟩
  obtain ⟨W0, hW0⟩ : ∃ W0, W0 = ((w.alloc (.cells #[v0, v1, v2] 29)).alloc (.cells #[v0, v1, v2] 29)).alloc (.map #[] 0) := ⟨_, rfl⟩
  have HZ : Hid (W0.heap.size = n + 3) := by show _ = _; rw [hW0, hn]; simp
  have HLOW : Hid (∀ b, b < n → W0.heap[b]? = w.heap[b]?) := fun b hb => by
    rw [hn] at hb
    rw [hW0, Below.heap_alloc _ _ _ (by simp; omega), Below.heap_alloc _ _ _ (by simp; omega), Below.heap_alloc _ _ _ (by omega)]
  have HM : Hid (W0.heap[n + 2]? = some (.map #[] 0)) := by
    show _ = _
    rw [hW0, hn]
    have := alloc_top ((w.alloc (.cells #[v0, v1, v2] 29)).alloc (.cells #[v0, v1, v2] 29)) (.map #[] 0)
    simpa using this
  have H1 : Hid (W0.heap[n + 1]? = some (.cells #[v0, v1, v2] 29)) := by
    show _ = _
    rw [hW0, hn, Below.heap_alloc _ _ _ (by simp)]
    have := alloc_top (w.alloc (.cells #[v0, v1, v2] 29)) (.cells #[v0, v1, v2] 29)
    simpa using this
  have HW0 : Hid (W0 = ((w.alloc (.cells #[v0, v1, v2] 29)).alloc (.cells #[v0, v1, v2] 29)).alloc (.map #[] 0)) := hW0
  have HN : Hid (n = w.heap.size) := hn
  have HWH : Hid (irSh.slice.rep W0 (fun b => b < n + 3 ∧ b ≠ n + 2 ∧ Plain W0 b) [.slice (some ⟨n + 1, 0, none⟩) 1 1] [T]) := by
    refine one_row H1.out ⟨by omega, by omega, _, _, H1.out⟩ (irSh.mono (irSh.on HT.out fun b hb => HLOW.out b (by omega)) fun b hb => ⟨by omega, by omega, hb.2.on (HLOW.out b (by omega))⟩)
  have I0 : Hid (ZInv K 37 W0 (n + 2) (n + 3) (some ⟨n + 1, 0, none⟩, 1, [T]) (W0.alloc (.cells #[.slice (some ⟨n + 1, 0, none⟩) 1 1, .int .i64 0, .int .i64 0] 37)) false [] [((some ⟨n + 1, 0, none⟩, 1, [T]), 0, 0)] (.slice (some ⟨n + 3, 0, none⟩) 1 1)) := by
    have hbk : ∀ (o : Obj) b, b < n + 3 → (W0.alloc o).heap[b]? = W0.heap[b]? := fun o b hb => Below.heap_alloc _ _ _ (by rw [HZ.out]; exact hb)
    refine ⟨by rw [World.size_alloc, HZ.out]; omega, fun b h1 _ => hbk _ b h1, ⟨#[], 0, (hbk _ (n + 2) (by omega)).trans HM.out, rfl⟩, (fun e he => by cases he), (fun q val hq => by simp [klook] at hq), ?_, rfl, ?_, (fun e => by cases e), (fun e => by cases e)⟩
    · intro x hx
      simp only [List.mem_singleton] at hx
      subst hx
      exact ⟨HWH.out, Nat.zero_le _, by simp [cnts]⟩
    · refine ⟨fun _ => [.slice (some ⟨n + 1, 0, none⟩) 1 1, .int .i64 0, .int .i64 0], ⟨rfl, Or.inr ⟨n + 3, 1, #[.slice (some ⟨n + 1, 0, none⟩) 1 1, .int .i64 0, .int .i64 0], rfl, Nat.le_refl _, ?_, Nat.le_refl _, by unfold maxLen; omega, rfl, rfl⟩⟩, fun i hi => ?_⟩
      · rw [← HZ.out]; exact alloc_top _ _
      · have : i = 0 := by simp at hi; omega
        subst this
        exact ⟨rfl, irSh.slice.on HWH.out fun b hb => hbk _ b hb.1⟩
  have B0 : Hid (Below n w (W0.alloc (.cells #[.slice (some ⟨n + 1, 0, none⟩) 1 1, .int .i64 0, .int .i64 0] 37))) := by
    have : Below n w W0 := by
      rw [hW0, hn]
      exact (((Below.refl _ w).alloc (Nat.le_refl _) _).alloc (by simp) _).alloc (by simp; omega) _
    exact this.alloc (by rw [HZ.out]; omega) _
  have HTL : Hid (cnts [T] ≤ 1048577 ∧ cnts [T] = cnt T) := by have := cnt_le T; refine ⟨?_, ?_⟩ <;> simp [cnts]; omega
  clear hW0 hn hw
  go_enter Try.func7, Try.ntmps7
  go_wp2
  rw [← HN.out, ← HW0.out]
  go_loopg [5] (1 + 3 * cnts [T]) (fun k v5 wr => ∃ (f : Bool) (m : List ((Option Addr × Int) × Value)) (st : List FrD), k = msr f st ∧ Hid (ZInv K 37 W0 (n + 2) (n + 3) (some ⟨n + 1, 0, none⟩, 1, [T]) wr f m st v5 ∧ msr f st ≤ 1 + 3 * cnts [T] ∧ Below n w wr))
  case atStart => exact ⟨false, [], [((some ⟨n + 1, 0, none⟩, 1, [T]), 0, 0)], by simp [msr, mu], I0.out, by simp [msr, mu], B0.out⟩
  case round =>
    obtain ⟨f, m, st, hk, HI⟩ := hrel
    cases st with
    | nil =>
      obtain ⟨a, c, hv⟩ := HI.out.1.bot
      subst hv
      have hcall : Calls Try.prog 11 #[.slice (some ⟨n + 1, 0, none⟩) 1 1] wr fun e w' => e = .returned (.agg #[.pointer (some ⟨n + 1, 0, none⟩), .int .i64 1]) ∧ Below wr.heap.size wr w' := irsOf_some (n + 1) 0 1 1 wr (by omega) (by omega)
      have HKEY : Hid (AtD.key (some ⟨n + 1, 0, none⟩, 1, [T]) = (some ⟨n + 1, 0, none⟩, 1)) := by show _ = _; simp [AtD.key]
      go_wp2_with fail
      refine hcall.mono ?_
      clear hcall
      rintro e w1 ⟨rfl, hb⟩
      have I1 : Hid (ZInv K 37 W0 (n + 2) (n + 3) (some ⟨n + 1, 0, none⟩, 1, [T]) w1 f m [] (.slice a 0 c)) := HI.out.1.on (by omega) hb
      have hlook0 := I1.out.map.look1 (t := 35) Try.underlying35 (Try.zeroValue3 w1) (a := (some ⟨n + 1, 0, none⟩, 1)) ((HK.out.2 _ _).2 (by have := key_plain (wr := w1) (x := (some ⟨n + 1, 0, none⟩, 1, [T])) HWH.out I1.out.low; rwa [HKEY.out] at this)) (I1.out.okm HK.out.2)
      have hnone := I1.out.none_ rfl
      rw [HKEY.out] at hnone
      rw [hnone, HK.out.1] at hlook0
      have hlook : (Instr.lookup 35 (.map (some (n + 1 + 1))) (.agg #[.pointer (some ⟨n + 1, 0, none⟩), .int .i64 1]) false).run Try.prog w1 = .ok (.int .i64 (cnts [T] : Nat)) w1 := hlook0
      have BB : Hid (Below n w w1) := HI.out.2.2.trans (hb.mono (by have := HI.out.1.size; omega))
      clear hlook0 hnone hb I1 HI
      go_wp2
      go_ret
      exact ⟨ret_n HTL.out.2, by rw [← HN.out]; exact BB.out⟩
    | cons x r =>
      obtain ⟨g, cap, rfl, hgb, hgz, hc1, hc2, ⟨cur, hcur, hcs⟩, c0, c1, c2⟩ := HI.out.1.top
      have hrl : r.length ≤ 3145732 := by
        have h1 := msr_len f (x :: r)
        have h2 := HI.out.2.1
        have h3 := HTL.out.1
        simp at h1
        omega
      obtain ⟨xat, xn, xs⟩ := x
      obtain ⟨xa, xc, ks⟩ := xat
      obtain ⟨hxr, hxn, hxs⟩ := HI.out.1.ok _ (List.mem_cons_self ..)
      dsimp only [AtD.v] at c0 c1 c2 hxr hxn hxs
      have HXR : Hid (irSh.slice.rep W0 (fun b => b < n + 3 ∧ b ≠ n + 2 ∧ Plain W0 b) [.slice xa ks.length xc] ks) := hxr
      have hkl : cnts ks ≤ 1048577 := Nat.le_trans HI.out.1.chain.le HTL.out.1
      have hkm : ks.length ≤ 1048577 := Nat.le_trans (len_le ks) hkl
      have hsz : xs ≤ 1048577 := by rw [hxs]; exact Nat.le_trans (cnts_take_le _ _) hkl
      have HXS : Hid (xs = cnts (ks.take xn)) := hxs
      have HCUR : Hid (wr.heap[g]? = some (.cells cur 37)) := hcur
      clear hxs hxr hcur hcs
      go_wp2
      go_region
      obtain ⟨W1, hW1⟩ : ∃ W1, W1 = wr.drew := ⟨_, rfl⟩
      have BW1 : Below wr.heap.size wr W1 := by rw [hW1]; exact (Below.refl _ _).drew
      have ZW1 : W1.heap.size = wr.heap.size := by rw [hW1]; rfl
      have d0 : W1.cell? ⟨g, r.length * 3, none⟩ = some (.slice xa ks.length xc) := by rw [hW1]; exact c0
      have d1 : W1.cell? ⟨g, r.length * 3 + 1, none⟩ = some (.int .i64 xn) := by rw [hW1]; exact c1
      have d2 : W1.cell? ⟨g, r.length * 3 + 2, none⟩ = some (.int .i64 xs) := by rw [hW1]; exact c2
      have I1 : Hid (ZInv K 37 W0 (n + 2) (n + 3) (some ⟨n + 1, 0, none⟩, 1, [T]) W1 f m (((xa, xc, ks), xn, xs) :: r) (.slice (some ⟨g, 0, none⟩) (r.length + 1) cap)) := HI.out.1.on (by omega) BW1
      have B1 : Hid (Below n w W1) := HI.out.2.2.trans (BW1.mono (by have := HI.out.1.size; omega))
      have HMS : Hid (gk = msr f (((xa, xc, ks), xn, xs) :: r) ∧ gk ≤ 1 + 3 * cnts [T]) := ⟨hk, by rw [hk]; exact HI.out.2.1⟩
      have HG : Hid (n + 3 ≤ g ∧ g < W1.heap.size ∧ W1.heap[g]? = some (.cells cur 37)) := ⟨hgb, by omega, by rw [hW1]; exact HCUR.out⟩
      rw [← hW1]
      clear c0 c1 c2 BW1 ZW1 HI hgb hgz HCUR hk hW1
      by_cases hxl : xn = ks.length
      · subst hxl
        go_wp2
        have hst : ∀ w2 : World, Below W1.heap.size W1 w2 → ∃ w3 m3, (Instr.mapUpdate 35 (.map (some (n + 1 + 1))) (spotEnc (AtD.key (xa, xc, ks))) (.int .i64 xs)).run Try.prog w2 = .ok () w3 ∧ ZInv K 37 W0 (n + 2) (n + 3) (some ⟨n + 1, 0, none⟩, 1, [T]) w3 true m3 r (.slice (some ⟨g, 0, none⟩) r.length cap) ∧ Below n w w3 ∧ w3.heap[g]? = w2.heap[g]? := fun w2 hb2 => by
          have I2 := I1.out.on (by omega) hb2
          obtain ⟨w3, m3, e1, e2, e3, e4, e5⟩ := I2.map.store2 (t := 35) Try.underlying35 (a := AtD.key (xa, xc, ks)) ((HK.out.2 _ _).2 (key_plain (wr := w2) (x := (xa, xc, ks)) HXR.out I2.low)) (I2.okm HK.out.2) (.int .i64 xs)
          rw [HK.out.1] at e1
          refine ⟨w3, m3, e1, I2.pop (by omega) e2 e3 e4 e5, ?_, e5.block g (Nat.lt_of_lt_of_le HG.out.2.1 hb2.size) (fun e => by have h1 := HG.out.1; have h2 := Option.some.inj e; omega)⟩
          refine (B1.out.trans (hb2.mono (by have := I1.out.size; omega))).grown e5 (by have := I2.size; omega) (fun q e => by cases e; omega)
        have HST : Hid _ := hst
        clear hst
        go_region_held3 (fun W => W.cell? ⟨g, r.length * 3, none⟩ = some (.slice xa ks.length xc) ∧ W.cell? ⟨g, r.length * 3 + 2, none⟩ = some (.int .i64 xs))
          (first | exact C3.out | exact C2.out | exact ⟨d0, d2⟩)
          (first | (go_at_call 11; refine (irsOf_any (x := (xa, xc, ks)) HXR.out _).mono ?_; rintro e w2 ⟨rfl, hb2⟩; have C2 : Hid (w2.cell? ⟨g, r.length * 3, none⟩ = some (.slice xa ks.length xc) ∧ w2.cell? ⟨g, r.length * 3 + 2, none⟩ = some (.int .i64 xs)) := ⟨(hb2.cell (p := ⟨g, r.length * 3, none⟩) HG.out.2.1).trans d0, (hb2.cell (p := ⟨g, r.length * 3 + 2, none⟩) HG.out.2.1).trans d2⟩; obtain ⟨w3, m3, hst3, I3, B3, hg3⟩ := HST.out w2 ((Below.refl _ _).drew.trans hb2); have C3 : Hid (w3.cell? ⟨g, r.length * 3, none⟩ = some (.slice xa ks.length xc) ∧ w3.cell? ⟨g, r.length * 3 + 2, none⟩ = some (.int .i64 xs)) := ⟨(World.cell?_of_block (w := w2) (a := ⟨g, r.length * 3, none⟩) hg3).trans C2.out.1, (World.cell?_of_block (w := w2) (a := ⟨g, r.length * 3 + 2, none⟩) hg3).trans C2.out.2⟩; have I3' : Hid _ := I3; have B3' : Hid _ := B3; clear I3 B3 hb2 hg3) | fail)
        go_wp2
        go_roundg (msr true r)
        case rel => exact ⟨true, m3, r, rfl, I3'.out, by have h1 := msr_pop f xa xc ks xs r; have h2 := HMS.out; omega, B3'.out⟩
        case measure => have h1 := msr_pop f xa xc ks xs r; have h2 := HMS.out; omega
      · have hxl' : ¬ ((xn : Int) = (ks.length : Int)) := by omega
        have hlt : xn < ks.length := by omega
        obtain ⟨b, o, k0, k1, y, rfl, hS, e0, e1, e2, hky, hyr⟩ := kids_at (y := (xa, xc, ks)) HXR.out hlt
        obtain ⟨ya, yc, js⟩ := y
        dsimp only [AtD.v] at e2
        have d3 : W1.cell? ⟨b, o + xn * 3 + 2, none⟩ = some (.slice ya js.length yc) := (World.cell?_of_block (w := W0) (a := ⟨b, o + xn * 3 + 2, none⟩) (I1.out.low b hS.1 hS.2.1)).trans e2
        have HKY : Hid (KidsAt W0 (some ⟨b, o, none⟩, xc, ks) xn (ya, yc, js)) := hky
        have HYR : Hid (irSh.slice.rep W0 (fun b => b < n + 3 ∧ b ≠ n + 2 ∧ Plain W0 b) [.slice ya js.length yc] js) := hyr
        clear hxl hky hyr hS e0 e1 e2
        go_wp2
        go_region
        obtain ⟨W2, hW2⟩ : ∃ W2, W2 = W1.drew := ⟨_, rfl⟩
        have BW2 : Below W1.heap.size W1 W2 := by rw [hW2]; exact (Below.refl _ _).drew
        rw [← hW2]
        have I2 : Hid (ZInv K 37 W0 (n + 2) (n + 3) (some ⟨n + 1, 0, none⟩, 1, [T]) W2 f m (((some ⟨b, o, none⟩, xc, ks), xn, xs) :: r) (.slice (some ⟨g, 0, none⟩) (r.length + 1) cap)) := I1.out.on (by omega) BW2
        have B2 : Hid (Below n w W2) := B1.out.trans (BW2.mono (by have := I1.out.size; omega))
        have HG2 : Hid (n + 3 ≤ g ∧ g < W2.heap.size ∧ W2.heap[g]? = some (.cells cur 37) ∧ W2.cell? ⟨g, r.length * 3 + 1, none⟩ = some (.int .i64 xn) ∧ W2.cell? ⟨g, r.length * 3 + 2, none⟩ = some (.int .i64 xs)) := ⟨HG.out.1, Nat.lt_of_lt_of_le HG.out.2.1 BW2.size, (BW2.block g HG.out.2.1).trans HG.out.2.2, (BW2.cell (p := ⟨g, r.length * 3 + 1, none⟩) HG.out.2.1).trans d1, (BW2.cell (p := ⟨g, r.length * 3 + 2, none⟩) HG.out.2.1).trans d2⟩
        have hcall := irsOf_any (x := (ya, yc, js)) HYR.out W2
        dsimp only [AtD.v] at hcall
        clear hW2 BW2 I1 B1 HG d0 d1 d2 d3
        go_wp2_with fail
        refine hcall.mono ?_
        clear hcall
        rintro e w3 ⟨rfl, hb3⟩
        have I3 : Hid (ZInv K 37 W0 (n + 2) (n + 3) (some ⟨n + 1, 0, none⟩, 1, [T]) w3 f m (((some ⟨b, o, none⟩, xc, ks), xn, xs) :: r) (.slice (some ⟨g, 0, none⟩) (r.length + 1) cap)) := I2.out.on (by omega) hb3
        have B3 : Hid (Below n w w3) := B2.out.trans (hb3.mono (by have := I2.out.size; omega))
        have HG3 : Hid (n + 3 ≤ g ∧ g < w3.heap.size) := ⟨HG2.out.1, Nat.lt_of_lt_of_le HG2.out.2.1 hb3.size⟩
        have hcur3 : w3.heap[g]? = some (.cells cur 37) := (hb3.block g HG2.out.2.1).trans HG2.out.2.2.1
        have f1 : w3.cell? ⟨g, r.length * 3 + 1, none⟩ = some (.int .i64 xn) := (hb3.cell (p := ⟨g, r.length * 3 + 1, none⟩) HG2.out.2.1).trans HG2.out.2.2.2.1
        have f2 : w3.cell? ⟨g, r.length * 3 + 2, none⟩ = some (.int .i64 xs) := (hb3.cell (p := ⟨g, r.length * 3 + 2, none⟩) HG2.out.2.1).trans HG2.out.2.2.2.2
        have hok3 : K.ok w3 (AtD.key (ya, yc, js)) := (HK.out.2 _ _).2 (key_plain (wr := w3) (x := (ya, yc, js)) HYR.out I3.out.low)
        have hlook0 := I3.out.map.look2 (t := 35) Try.underlying35 (Try.zeroValue3 w3) hok3 (I3.out.okm HK.out.2)
        rw [HK.out.1] at hlook0
        have HOK : Hid _ := hok3
        have HCU : Hid _ := hcur3
        clear hb3 I2 B2 HG2 hok3 hcur3
        cases hkl2 : klook K (AtD.key (ya, yc, js)) m with
        | some val =>
          have hval := I3.out.found HKY.out HYR.out hkl2
          subst hval
          rw [hkl2] at hlook0
          have hlook : (Instr.lookup 35 (.map (some (n + 1 + 1))) (spotEnc (AtD.key (ya, yc, js))) true).run Try.prog w3 = .ok (.tuple #[.int .i64 (cnts js : Nat), .bool true]) w3 := hlook0
          have hnum : xs + cnts js + 1 = cnts (ks.take (xn + 1)) := by
            obtain ⟨h1, h2⟩ := HKY.out.one
            have h3 := cnts_take h1
            have h4 := HXS.out
            dsimp only at h2 h3
            omega
          have hle : xs + cnts js + 1 ≤ 1048577 := by rw [hnum]; exact Nat.le_trans (cnts_take_le _ _) hkl
          have hcall := count_any g (r.length * 3) xn xs (cnts js) w3 cur 37 HCU.out f1 f2 (by omega) hle
          have HNUM : Hid (xs + cnts js + 1 = cnts (ks.take (xn + 1))) := hnum
          generalize cnts js = cj at hlook hcall HNUM hle
          clear hlook0 hnum f1 f2 hkl2
          go_wp2_with fail
          refine hcall.mono ?_
          clear hcall
          rintro e w4 ⟨rfl, hw4⟩
          have I4 : Hid (ZInv K 37 W0 (n + 2) (n + 3) (some ⟨n + 1, 0, none⟩, 1, [T]) w4 false m (((some ⟨b, o, none⟩, xc, ks), xn + 1, xs + cj + 1) :: r) (.slice (some ⟨g, 0, none⟩) (r.length + 1) cap)) := by
            rw [hw4]
            exact I3.out.count (by omega) HG3.out.1 (by show xn + 1 ≤ ks.length; omega) HNUM.out
          have B4 : Hid (Below n w w4) := by
            rw [hw4]
            have := HG3.out.1
            exact (B3.out.setCell (p := ⟨g, r.length * 3 + 1, none⟩) (by show n ≤ g; omega) _).setCell (p := ⟨g, r.length * 3 + 2, none⟩) (by show n ≤ g; omega) _
          clear hw4
          go_wp2
          go_roundg (msr false (((some ⟨b, o, none⟩, xc, ks), xn + 1, xs + cj + 1) :: r))
          case rel => exact ⟨false, m, _, rfl, I4.out, by have h1 := msr_count f (a := some ⟨b, o, none⟩) (c := xc) (s := xs) (s' := xs + cj + 1) (r := r) hlt; have h2 := HMS.out; omega, B4.out⟩
          case measure => have h1 := msr_count f (a := some ⟨b, o, none⟩) (c := xc) (s := xs) (s' := xs + cj + 1) (r := r) hlt; have h2 := HMS.out; omega
        | none =>
          have hff : f = false := by
            cases f with
            | false => rfl
            | true =>
              obtain ⟨z, h1, h2⟩ := I3.out.flag rfl _ _ rfl
              rw [HKY.out.sole h1] at hkl2
              rw [hkl2] at h2
              cases h2
          subst hff
          rw [hkl2] at hlook0
          have hlook : (Instr.lookup 35 (.map (some (n + 1 + 1))) (spotEnc (AtD.key (ya, yc, js))) true).run Try.prog w3 = .ok (.tuple #[.int .i64 0, .bool false]) w3 := hlook0
          have hcall := irsOf_any (x := (ya, yc, js)) HYR.out w3
          dsimp only [AtD.v] at hcall
          clear hlook0 f1 f2 hkl2
          go_wp2_with fail
          refine hcall.mono ?_
          clear hcall hlook
          rintro e w4 ⟨rfl, hb4⟩
          have I4 : Hid (ZInv K 37 W0 (n + 2) (n + 3) (some ⟨n + 1, 0, none⟩, 1, [T]) w4 false m (((some ⟨b, o, none⟩, xc, ks), xn, xs) :: r) (.slice (some ⟨g, 0, none⟩) (r.length + 1) cap)) := I3.out.on (by omega) hb4
          have B4 : Hid (Below n w w4) := B3.out.trans (hb4.mono (by have := I3.out.size; omega))
          obtain ⟨w5, m5, hst0, hm5, hmm5, hlk5, hg5⟩ := I4.out.map.store2 (t := 35) Try.underlying35 (a := AtD.key (ya, yc, js)) ((HK.out.2 _ _).2 (key_plain (wr := w4) (x := (ya, yc, js)) HYR.out I4.out.low)) (I4.out.okm HK.out.2) (.int .i64 9223372036854775807)
          rw [HK.out.1] at hst0
          have hst : (Instr.mapUpdate 35 (.map (some (n + 1 + 1))) (spotEnc (AtD.key (ya, yc, js))) (.int .i64 9223372036854775807)).run Try.prog w4 = .ok () w5 := hst0
          obtain ⟨hz5, hlow5, hk5, hrow5⟩ := I4.out.known (y := (ya, yc, js)) (by omega) HYR.out hm5 hmm5 hg5
          have B5 : Hid (Below n w w5) := B4.out.grown hg5 (by have := I4.out.size; omega) (fun q e => by cases e; omega)
          have HM5 : Hid (KMap K w5 (n + 2) m5 ∧ (∀ e ∈ m5, e ∈ m ∨ e = (AtD.key (ya, yc, js), .int .i64 9223372036854775807)) ∧ (∀ q, klook K q m5 = if @decide (q = AtD.key (ya, yc, js)) (K.dec q (AtD.key (ya, yc, js))) then some (.int .i64 9223372036854775807) else klook K q m) ∧ n + 3 ≤ w5.heap.size ∧ (∀ b, b < n + 3 → b ≠ n + 2 → w5.heap[b]? = W0.heap[b]?) ∧ (∀ e ∈ m5, ∃ x : AtD, e.1 = x.key ∧ irSh.slice.rep W0 (fun b => b < n + 3 ∧ b ≠ n + 2 ∧ Plain W0 b) [x.v] x.2.2)) := ⟨hm5, hmm5, hlk5, hz5, hlow5, hk5⟩
          have HR5 : Hid (rose.Own frSh 37 w5 (n + 3) (fun b => b < n + 3 ∧ b ≠ n + 2 ∧ Plain W0 b) (.slice (some ⟨g, 0, none⟩) (r.length + 1) cap) (((some ⟨b, o, none⟩, xc, ks), xn, xs) :: r).reverse) := hrow5
          clear hst0 hm5 hmm5 hlk5 hg5 hlow5 hk5 hrow5 hb4 I3 B3 B4
          obtain ⟨Y, hY⟩ : ∃ Y, Y = w5.alloc (.cells #[.slice ya js.length yc, .int .i64 0, .int .i64 0] 37) := ⟨_, rfl⟩
          have BY : Below w5.heap.size w5 Y := by rw [hY]; exact (Below.refl _ _).alloc (Nat.le_refl _) _
          have SY : Hid (Y.heap.size = w5.heap.size + 1) := by show _ = _; rw [hY]; simp
          have HMY : Hid (KMap K Y (n + 2) m5 ∧ n + 3 ≤ Y.heap.size ∧ (∀ b, b < n + 3 → b ≠ n + 2 → Y.heap[b]? = W0.heap[b]?) ∧ rose.Own frSh 37 Y (n + 3) (fun b => b < n + 3 ∧ b ≠ n + 2 ∧ Plain W0 b) (.slice (some ⟨g, 0, none⟩) (r.length + 1) cap) (((some ⟨b, o, none⟩, xc, ks), xn, xs) :: r).reverse) := by
            have hz := HM5.out.2.2.2.1
            refine ⟨HM5.out.1.on (BY.block _ (by omega)), by rw [SY.out]; omega, fun q h1 h2 => (BY.block q (by omega)).trans (HM5.out.2.2.2.2.1 q h1 h2), HR5.out.on fun q hq => ?_⟩
            rcases hq with hq | hq
            · exact BY.block q (by have := hq.1; omega)
            · exact BY.block q hq
          obtain ⟨css, hown0, hcr⟩ := HMY.out.2.2.2
          have hown : Y.ownsRow (n + 3) 37 3 (.slice (some ⟨g, 0, none⟩) (r.length + 1) cap) (r.length + 1) (flat css (r.length + 1)) := by
            have h := hown0
            rw [show ((((some ⟨b, o, none⟩, xc, ks), xn, xs) :: r : List FrD)).reverse.length = r.length + 1 by simp] at h
            exact h
          have HOWN : Hid _ := hown
          have HCR : Hid _ := hcr
          have hnews := cells_new w5 [.slice ya js.length yc, .int .i64 0, .int .i64 0] 37 _ rfl
          rw [show (#[.slice ya js.length yc, .int .i64 0, .int .i64 0] : Array Value) = [.slice ya js.length yc, .int .i64 0, .int .i64 0].toArray from rfl] at hY
          rw [← hY] at hnews
          have HNEW : Hid _ := hnews
          have HYY : Hid (Y = w5.alloc (.cells #[.slice ya js.length yc, .int .i64 0, .int .i64 0] 37)) := hY
          have BYY : Hid (Below w5.heap.size w5 Y) := BY
          clear hnews hown hown0 hcr hY BY HR5
          go_wp2_with (first
            | (at_builtin
               rw [← HYY.out]
               refine wpList_append_own_at _ rfl _ _ 38 rfl (n + 3) 37 ti _ 3 40 Try.underlying38 TI.out.1 TI.out.2.1 TI.out.2.2.1 TI.out.2.2.2 rfl (by decide) (.slice (some ⟨g, 0, none⟩) (r.length + 1) cap) (r.length + 1) _ rfl HOWN.out ⟨w5.heap.size, 0, none⟩ 1 1 _ rfl rfl HNEW.out (by simp [Value.oneCell']) (by unfold maxLen; omega) (by omega) HMY.out.2.1 ?_
               intro v' w6 hown6 hgrow6 _ hat6)
            | fail)
          have hms := msr_push (a := some ⟨b, o, none⟩) (b := ya) (c := xc) (d := yc) (ks := ks) (js := js) (i := xn) (s := xs) (r := r) hlt (by obtain ⟨_, _, _, _, _, h⟩ := HKY.out; exact h)
          have I6 : Hid (ZInv K 37 W0 (n + 2) (n + 3) (some ⟨n + 1, 0, none⟩, 1, [T]) w6 false m5 (((ya, yc, js), 0, 0) :: ((some ⟨b, o, none⟩, xc, ks), xn, xs) :: r) v') :=
            I4.out.push (by omega) HKY.out HYR.out HMY.out.1 HM5.out.2.1 HM5.out.2.2.1 HMY.out.2.1 HMY.out.2.2.1 HOWN.out HCR.out HM5.out.2.2.2.2.2 hown6 hgrow6
          have B6 : Hid (Below n w w6) := by
            refine (B5.out.trans (BYY.out.mono (by have := HM5.out.2.2.2.1; omega))).grown hgrow6 (by have := HMY.out.2.1; omega) fun q e => ?_
            have := (World.ownsRow.lt HOWN.out q e).1
            omega
          clear hgrow6 hown6 hat6
          go_roundg (msr false (((ya, yc, js), 0, 0) :: ((some ⟨b, o, none⟩, xc, ks), xn, xs) :: r))
          case rel => exact ⟨false, m5, _, rfl, I6.out, by have h2 := HMS.out; omega, B6.out⟩
          case measure => have h2 := HMS.out; omega

end Go.Proofs.Ytndlhmpglpehcaa.ir

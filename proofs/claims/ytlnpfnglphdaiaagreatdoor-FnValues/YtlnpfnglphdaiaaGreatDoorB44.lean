/-
  The program's fits, at every pattern and value that lie in rows of cells which nothing froze: whether one fits the other; nothing that was there is turned.
-/
import Derived.Deep.LoopGhost
import Derived.OwnWalk
import Derived.Maps.AppendAt
import Derived.Laws.AppendOwn
import Derived.Laws.StructEq
import Derived.Test.YtlnpfnglphdaiaaGreatDoorB1
import Derived.Test.YtlnpfnglphdaiaaGreatDoorB2
import Derived.Test.YtlnpfnglphdaiaaGreatDoorB3
import Derived.Test.YtlnpfnglphdaiaaGreatDoorB4
import Derived.Test.YtlnpfnglphdaiaaGreatDoorB5
import Derived.Test.YtlnpfnglphdaiaaGreatDoorB6
import Derived.Test.YtlnpfnglphdaiaaGreatDoorB7
import Derived.Test.YtlnpfnglphdaiaaGreatDoorB8
import Derived.Test.YtlnpfnglphdaiaaGreatDoorB9
import Derived.Test.YtlnpfnglphdaiaaGreatDoorB10
import Derived.Test.YtlnpfnglphdaiaaGreatDoorB11
import Derived.Test.YtlnpfnglphdaiaaGreatDoorB12
import Derived.Test.YtlnpfnglphdaiaaGreatDoorB13
import Derived.Test.YtlnpfnglphdaiaaGreatDoorB14
import Derived.Test.YtlnpfnglphdaiaaGreatDoorB15
import Derived.Test.YtlnpfnglphdaiaaGreatDoorB16
import Derived.Test.YtlnpfnglphdaiaaGreatDoorB17
import Derived.Test.YtlnpfnglphdaiaaGreatDoorB18
import Derived.Test.YtlnpfnglphdaiaaGreatDoorB19
import Derived.Test.YtlnpfnglphdaiaaGreatDoorB20
import Derived.Test.YtlnpfnglphdaiaaGreatDoorB21
import Derived.Test.YtlnpfnglphdaiaaGreatDoorB22
import Derived.Test.YtlnpfnglphdaiaaGreatDoorB23
import Derived.Test.YtlnpfnglphdaiaaGreatDoorB24
import Derived.Test.YtlnpfnglphdaiaaGreatDoorB25
import Derived.Test.YtlnpfnglphdaiaaGreatDoorB26
import Derived.Test.YtlnpfnglphdaiaaGreatDoorB27
import Derived.Test.YtlnpfnglphdaiaaGreatDoorB28
import Derived.Test.YtlnpfnglphdaiaaGreatDoorB29
import Derived.Test.YtlnpfnglphdaiaaGreatDoorB30
import Derived.Test.YtlnpfnglphdaiaaGreatDoorB31
import Derived.Test.YtlnpfnglphdaiaaGreatDoorB32
import Derived.Test.YtlnpfnglphdaiaaGreatDoorB33
import Derived.Test.YtlnpfnglphdaiaaGreatDoorB34
import Derived.Test.YtlnpfnglphdaiaaGreatDoorB35
import Derived.Test.YtlnpfnglphdaiaaGreatDoorB36
import Derived.Test.YtlnpfnglphdaiaaGreatDoorB37
import Derived.Test.YtlnpfnglphdaiaaGreatDoorB38
import Derived.Test.YtlnpfnglphdaiaaGreatDoorB39
import Derived.Test.YtlnpfnglphdaiaaGreatDoorB40
import Derived.Test.YtlnpfnglphdaiaaGreatDoorB41
import Derived.Test.YtlnpfnglphdaiaaGreatDoorB42
import Derived.Test.YtlnpfnglphdaiaaGreatDoorB43
namespace Go.Proofs.YtlnpfnglphdaiaaGreatDoor.fits
open Go Go.RowKit Go.Deep Go.Proofs.YtlnpfnglphdaiaaGreatDoor.rose Go.Proofs.YtlnpfnglphdaiaaGreatDoor
set_option linter.unusedVariables false
set_option linter.unusedSimpArgs false

/-- The cells of a new block. -/
theorem cells_new (w : World) (cs : List Value) (t : TypeId) (arr : Array Value) (ha : arr = cs.toArray) : ∀ j u, cs[j]? = some u → (w.alloc (.cells arr t)).cell? ((⟨w.heap.size, 0, none⟩ : Addr).add j) = some u := by
  subst ha
  intro j u hj
  have hh : (w.alloc (.cells cs.toArray t)).heap[w.heap.size]? = some (.cells cs.toArray t) := alloc_top w (.cells cs.toArray t)
  rw [add_plain, Nat.zero_add]
  simp only [World.cell?, hh]
  simpa using hj

/-- A slice of one element that a block holds. -/
theorem one_row {α : Type} (A : Sh α) {w : World} {S : Nat → Prop} (g : Nat) (cs : List Value) (t : TypeId) (X : α) (hg : w.heap[g]? = some (.cells cs.toArray t)) (hS : S g) (hr : A.rep w S cs X) : A.slice.rep w S [.slice (some ⟨g, 0, none⟩) 1 1] [X] := by
  refine ⟨some ⟨g, 0, none⟩, 1, fun _ => cs, rfl, Nat.le_refl _, by unfold maxLen; omega, (fun h => by cases h), fun i hi => ⟨g, 0, rfl, hS, ?_⟩, fun i hi => ?_⟩
  · have : i = 0 := by simp at hi; omega
    subst this
    intro j u hj
    simp only [World.cell?, hg, Nat.zero_mul, Nat.zero_add]
    simpa using hj
  · have : i = 0 := by simp at hi; omega
    subst this
    exact hr

set_option maxRecDepth 100000 in
theorem info_nd1 : (Tryz.prog.info? 36).map (fun i => i.size) = some 5 := by kernel_rfl
set_option maxRecDepth 100000 in
theorem info_value1 : (Tryz.prog.info? 26).map (fun i => i.size) = some 4 := by kernel_rfl
set_option maxRecDepth 100000 in
theorem info_beside : (Tryz.prog.info? 100).map (fun i => (i.zero, i.size, i.bytes)) = some (some (.agg #[.slice none 0 0, .slice none 0 0]), 2, 48) := by kernel_rfl
set_option maxRecDepth 100000 in
theorem pair_fields : (Tryz.prog.underlying 110).map (fun d => match d with | .struct fs => fs.toList.map (fun f => (f.name, f.type, f.offset)) | _ => []) = some [("pattern", 108, 0), ("value", 90, 1)] := by kernel_rfl
set_option maxRecDepth 100000 in
theorem pair_held : Tryz.prog.stoodInHeld 110 = false := by kernel_rfl

/-- The keys of the map. -/
theorem pair_kind : ∃ K : KeyKind Tryz.prog 110 (Addr × Addr), K.enc = pairEnc ∧ ∀ w p, K.ok w p ↔ (Plain w p.1.block ∧ Plain w p.2.block) := by
  obtain ⟨ti, hti, hsz⟩ := Option.map_eq_some_iff.1 info_nd1
  obtain ⟨tj, htj, hsj⟩ := Option.map_eq_some_iff.1 info_value1
  obtain ⟨d, hd, hfs⟩ := Option.map_eq_some_iff.1 pair_fields
  cases d with
  | struct fs => exact ⟨pairKind2 fs hd hfs (by decide) (by decide) pair_held Tryz.underlying108 hti (by omega) Tryz.underlying90 htj (by omega), rfl, fun _ _ => Iff.rfl⟩
  | _ => simp at hfs

set_option maxRecDepth 100000 in
set_option maxHeartbeats 4000000 in
theorem fits_any (T : Nd) (T' : ValueD) (cs1 cs2 : List Value) (w : World) (hw : node.wt T ≤ 1048576) (h : ndSh.rep w (fun b => b < w.heap.size ∧ Plain w b) cs1 T) (h' : valueSh.rep w (fun b => b < w.heap.size ∧ Plain w b) cs2 T') :
    Calls Tryz.prog 21 #[.agg cs1.toArray, .agg cs2.toArray, .func (.func 22) #[] #[]] w fun e w' => e = .returned (.bool (fitsB T T')) ∧ Below w.heap.size w w' := by
  obtain ⟨K, hKe, hKo⟩ := pair_kind
  obtain ⟨ti, hti, hzz⟩ := Option.map_eq_some_iff.1 info_beside
  simp only [Prod.mk.injEq] at hzz
  obtain ⟨hz0, hz1, hz2⟩ := hzz
  have TI : Hid (Tryz.prog.info? 100 = some ti ∧ ti.zero = some (.agg #[.slice none 0 0, .slice none 0 0]) ∧ ti.size = 2 ∧ ti.bytes = 48) := ⟨hti, hz0, hz1, hz2⟩
  have HK : Hid (K.enc = pairEnc ∧ ∀ w p, K.ok w p ↔ (Plain w p.1.block ∧ Plain w p.2.block)) := ⟨hKe, hKo⟩
  clear hti hz0 hz1 hz2 hKe hKo
  have one := ndSh.one h
  have one' := valueSh.one h'
  obtain ⟨v0, v1, v2, v3, v4, rfl⟩ := node.nd_list h
  obtain ⟨u0, u1, u2, u3, rfl⟩ := value.value_list h'
  have o0 := one v0 (by simp)
  have o1 := one v1 (by simp)
  have o2 := one v2 (by simp)
  have o3 := one v3 (by simp)
  have o4 := one v4 (by simp)
  have p0 := one' u0 (by simp)
  have p1 := one' u1 (by simp)
  have p2 := one' u2 (by simp)
  have p3 := one' u3 (by simp)
  have HT : Hid _ := h
  have HT' : Hid _ := h'
  clear one one' h h'
  have hmm := @run_makeMap Tryz.prog
  obtain ⟨n, hn⟩ : ∃ n, n = w.heap.size := ⟨_, rfl⟩
  obtain ⟨W0, hW0⟩ : ∃ W0, W0 = ((((w.alloc (.cells #[v0, v1, v2, v3, v4] 36)).alloc (.cells #[u0, u1, u2, u3] 26)).alloc (.map #[] 0)).alloc (.cells #[v0, v1, v2, v3, v4] 36)).alloc (.cells #[u0, u1, u2, u3] 26) := ⟨_, rfl⟩
  have HZ : Hid (W0.heap.size = n + 5) := by show _ = _; rw [hW0, hn]; simp
  have HLOW : Hid (∀ b, b < n → W0.heap[b]? = w.heap[b]?) := fun b hb => by
    rw [hn] at hb
    rw [hW0, Below.heap_alloc _ _ _ (by simp; omega), Below.heap_alloc _ _ _ (by simp; omega), Below.heap_alloc _ _ _ (by simp; omega), Below.heap_alloc _ _ _ (by simp; omega), Below.heap_alloc _ _ _ (by omega)]
  have HM : Hid (W0.heap[n + 2]? = some (.map #[] 0)) := by
    show _ = _
    rw [hW0, hn, Below.heap_alloc _ _ _ (by simp), Below.heap_alloc _ _ _ (by simp)]
    have := alloc_top ((w.alloc (.cells #[v0, v1, v2, v3, v4] 36)).alloc (.cells #[u0, u1, u2, u3] 26)) (.map #[] 0)
    simpa using this
  have H3 : Hid (W0.heap[n + 3]? = some (.cells #[v0, v1, v2, v3, v4] 36)) := by
    show _ = _
    rw [hW0, hn, Below.heap_alloc _ _ _ (by simp)]
    have := alloc_top (((w.alloc (.cells #[v0, v1, v2, v3, v4] 36)).alloc (.cells #[u0, u1, u2, u3] 26)).alloc (.map #[] 0)) (.cells #[v0, v1, v2, v3, v4] 36)
    simpa using this
  have H4 : Hid (W0.heap[n + 4]? = some (.cells #[u0, u1, u2, u3] 26)) := by
    show _ = _
    rw [hW0, hn]
    have := alloc_top ((((w.alloc (.cells #[v0, v1, v2, v3, v4] 36)).alloc (.cells #[u0, u1, u2, u3] 26)).alloc (.map #[] 0)).alloc (.cells #[v0, v1, v2, v3, v4] 36)) (.cells #[u0, u1, u2, u3] 26)
    simpa using this
  have HW0 : Hid (W0 = ((((w.alloc (.cells #[v0, v1, v2, v3, v4] 36)).alloc (.cells #[u0, u1, u2, u3] 26)).alloc (.map #[] 0)).alloc (.cells #[v0, v1, v2, v3, v4] 36)).alloc (.cells #[u0, u1, u2, u3] 26)) := hW0
  have HN : Hid (n = w.heap.size) := hn
  have I0 : Hid (SInv K 100 W0 (n + 2) (n + 5) T T' (W0.alloc (.cells #[.slice (some ⟨n + 3, 0, none⟩) 1 1, .slice (some ⟨n + 4, 0, none⟩) 1 1] 100)) [((some ⟨n + 3, 0, none⟩, 1, [T]), (some ⟨n + 4, 0, none⟩, 1, [T']))] [((some ⟨n + 3, 0, none⟩, 1, [T]), (some ⟨n + 4, 0, none⟩, 1, [T']))] (.slice (some ⟨n + 5, 0, none⟩) 1 1)) := by
    have hS : ∀ b, b < w.heap.size ∧ Plain w b → b < n + 5 ∧ b ≠ n + 2 ∧ Plain W0 b := fun b hb => ⟨by omega, by omega, hb.2.on (HLOW.out b (by omega))⟩
    have r1 : ndSh.rep W0 (fun b => b < n + 5 ∧ b ≠ n + 2 ∧ Plain W0 b) [v0, v1, v2, v3, v4] T := ndSh.mono (ndSh.on HT.out fun b hb => HLOW.out b (by omega)) hS
    have r2 : valueSh.rep W0 (fun b => b < n + 5 ∧ b ≠ n + 2 ∧ Plain W0 b) [u0, u1, u2, u3] T' := valueSh.mono (valueSh.on HT'.out fun b hb => HLOW.out b (by omega)) hS
    have s1 := one_row ndSh (n + 3) [v0, v1, v2, v3, v4] 36 T H3.out ⟨(by omega : n + 3 < n + 5), (by omega : n + 3 ≠ n + 2), _, _, H3.out⟩ r1
    have s2 := one_row valueSh (n + 4) [u0, u1, u2, u3] 26 T' H4.out ⟨(by omega : n + 4 < n + 5), (by omega : n + 4 ≠ n + 2), _, _, H4.out⟩ r2
    have hbk : ∀ (o : Obj) b, b < n + 5 → (W0.alloc o).heap[b]? = W0.heap[b]? := fun o b hb => Below.heap_alloc _ _ _ (by rw [HZ.out]; exact hb)
    have rp := pr_shut (p := ((some ⟨n + 3, 0, none⟩, 1, [T]), (some ⟨n + 4, 0, none⟩, 1, [T']))) s1 s2
    refine ⟨by rw [World.size_alloc, HZ.out]; omega, fun b h1 _ => hbk _ b h1, ?_, ?_, ?_, ⟨((some ⟨n + 3, 0, none⟩, 1, [T]), (some ⟨n + 4, 0, none⟩, 1, [T'])), List.mem_singleton.2 rfl, rfl, rfl⟩, ⟨[], ?_, by simp⟩, ?_, by simp⟩
    · intro p hp
      simp only [List.mem_singleton] at hp
      subst hp
      exact rp
    · intro p hp
      simp only [List.mem_singleton] at hp
      subst hp
      exact ⟨rfl, by simp⟩
    · intro e p hp
      simp only [List.mem_singleton] at hp
      subst hp
      intro i h1 h2
      have : i = 0 := by simp at h1; omega
      subst this
      exact e
    · exact ⟨#[], 0, (hbk _ (n + 2) (by omega)).trans HM.out, rfl⟩
    · refine ⟨fun _ => [.slice (some ⟨n + 3, 0, none⟩) 1 1, .slice (some ⟨n + 4, 0, none⟩) 1 1], ⟨rfl, Or.inr ⟨n + 5, 1, #[.slice (some ⟨n + 3, 0, none⟩) 1 1, .slice (some ⟨n + 4, 0, none⟩) 1 1], rfl, Nat.le_refl _, ?_, Nat.le_refl _, by unfold maxLen; omega, rfl, rfl⟩⟩, fun i hi => ?_⟩
      · rw [← HZ.out]; exact alloc_top _ _
      · have : i = 0 := by simp at hi; omega
        subst this
        exact prSh.on rp fun b hb => hbk _ b hb.1
  have B0 : Hid (Below n w (W0.alloc (.cells #[.slice (some ⟨n + 3, 0, none⟩) 1 1, .slice (some ⟨n + 4, 0, none⟩) 1 1] 100))) := by
    have : Below n w W0 := by
      rw [hW0, hn]
      exact (((((Below.refl _ w).alloc (Nat.le_refl _) _).alloc (by simp) _).alloc (by simp; omega) _).alloc (by simp; omega) _).alloc (by simp; omega) _
    exact this.alloc (by rw [HZ.out]; omega) _
  have HTL : Hid ((allT T).length ≤ 1048577) := by have := all_le T; show _ ≤ _; omega
  clear hW0 hn hw
  go_enter Tryz.func21, Tryz.ntmps21
  go_wp2
  rw [← HN.out, ← HW0.out]
  go_loopg [8] ((allT T).length) (fun k v6 wr => ∃ (PS st : List PrD), k = mu st ∧ Hid (SInv K 100 W0 (n + 2) (n + 5) T T' wr PS st v6 ∧ (∀ p ∈ PS, p ∈ st ∨ Done PS p) ∧ mu st ≤ (allT T).length ∧ Below n w wr))
  case atStart => exact ⟨_, _, by simp [mu, allS_one], I0.out, fun p hp => .inl hp, by simp [mu, allS_one], B0.out⟩
  case round =>
    obtain ⟨PS, st, hk, HI⟩ := hrel
    rcases List.eq_nil_or_concat st with rfl | ⟨st', p, rfl⟩
    · obtain ⟨a, c, hv⟩ := HI.out.1.bot
      subst hv
      have Q : Hid (fitsB T T' = true) := fitsB_true (HI.out.1.fin fun p hp => (HI.out.2.1 p hp).resolve_left (by simp))
      go_wp2
      go_ret
      exact ⟨ret_b Q.out.symm, by rw [← HN.out]; exact HI.out.2.2.2⟩
    · rw [List.concat_eq_append] at HI hk
      obtain ⟨⟨a1, k1, us⟩, ⟨a2, k2, vs⟩⟩ := p
      obtain ⟨g, cap, rfl, hgb, hgz, hc1, hc2, c0, c1⟩ := HI.out.1.top
      dsimp only at c0 c1
      have hpm : ((a1, k1, us), (a2, k2, vs)) ∈ PS := HI.out.1.sub _ (by simp)
      have hsl : st'.length ≤ 1048577 := by
        have h1 := mu_len (st' ++ [((a1, k1, us), (a2, k2, vs))]) fun q hq => (HI.out.1.len q (HI.out.1.sub q hq)).2
        have h2 := HI.out.2.2.1
        have h3 := HTL.out
        simp at h1
        omega
      obtain ⟨hpl, hpp⟩ := HI.out.1.len _ hpm
      dsimp only at hpl hpp
      have HRP : Hid (ndSh.slice.rep W0 (fun b => b < n + 5 ∧ b ≠ n + 2 ∧ Plain W0 b) [.slice a1 us.length k1] us ∧ valueSh.slice.rep W0 (fun b => b < n + 5 ∧ b ≠ n + 2 ∧ Plain W0 b) [.slice a2 vs.length k2] vs) := (pr_open (HI.out.1.rep _ hpm)).2
      have hmx : (us.length : Int) ≤ 9223372036854775807 := by
        obtain ⟨a, c, css, e, h1, h2, -⟩ := HRP.out.1
        unfold maxLen at h2
        omega
      have HPOP : Hid (SInv K 100 W0 (n + 2) (n + 5) T T' wr PS st' (.slice (some ⟨g, 0, none⟩) st'.length cap)) := HI.out.1.pop
      have HJ : Hid (∀ q ∈ PS, q ∈ st' ∨ q = ((a1, k1, us), (a2, k2, vs)) ∨ Done PS q) := fun q hq => by
        rcases HI.out.2.1 q hq with h | h
        · rcases List.mem_append.1 h with h | h
          · exact .inl h
          · simp only [List.mem_singleton] at h; exact .inr (.inl h)
        · exact .inr (.inr h)
      have HMU : Hid (gk = mu st' + (allS us).length ∧ gk ≤ 1048577 ∧ gk ≤ (allT T).length) := by
        refine ⟨by rw [hk, mu_snoc], ?_, ?_⟩
        · have h2 := HI.out.2.2.1
          have h3 := HTL.out
          omega
        · have h2 := HI.out.2.2.1
          omega
      have HBB : Hid (Below n w wr) := HI.out.2.2.2
      have HPL : Hid (us.length = vs.length ∧ 0 < us.length) := ⟨hpl, hpp⟩
      have HPM : Hid (((a1, k1, us), (a2, k2, vs)) ∈ PS) := hpm
      have HGZ : Hid (n + 5 ≤ g ∧ g < wr.heap.size) := ⟨hgb, hgz⟩
      clear hk HI hpm hpl hpp hgb
      go_wp2
      clear c0 c1
      rename World => wo
      go_loopw [8, 41] (fun v6 v36 wi => ∃ (PS st : List PrD) (i : Nat), i ≤ us.length ∧ v36 = .int .i64 i ∧ Hid (SInv K 100 W0 (n + 2) (n + 5) T T' wi PS st v6 ∧ ((a1, k1, us), (a2, k2, vs)) ∈ PS ∧ (∀ q ∈ PS, q ∈ st ∨ q = ((a1, k1, us), (a2, k2, vs)) ∨ Done PS q) ∧ (∀ j (h : j < us.length) (h' : j < vs.length), j < i → One PS us[j] vs[j]) ∧ mu st + (allS (us.drop i)).length + i ≤ gk ∧ Below n w wi ∧ wo.heap.size < wi.heap.size ∧ v6.ownBlock ≠ some wo.heap.size ∧ wi.heap[wo.heap.size]? = some (.cells #[.slice a1 us.length k1, .slice a2 vs.length k2] 100))) (fun _ v36 _ => us.length - (intOf v36).toNat)
      case atStart =>
        refine ⟨PS, st', 0, Nat.zero_le _, rfl, HPOP.out.on (by omega) ((Below.refl _ _).alloc (Nat.le_refl _) _), HPM.out, HJ.out, fun j _ _ hj => absurd hj (Nat.not_lt_zero _), ?_, HBB.out.alloc ?_ _, by simp, ?_, alloc_top _ _⟩
        · rw [List.drop_zero, HMU.out.1]; omega
        · have := HGZ.out; omega
        · have := HGZ.out.2
          simp [Value.ownBlock]; omega
      case round =>
        obtain ⟨PS, st, i, hi, rfl, HR⟩ := hrel
        have d0 : wr.cell? ⟨wo.heap.size, 0, none⟩ = some (.slice a1 us.length k1) := by simp [World.cell?, HR.out.2.2.2.2.2.2.2.2]
        have d1 : wr.cell? ⟨wo.heap.size, 1, none⟩ = some (.slice a2 vs.length k2) := by simp [World.cell?, HR.out.2.2.2.2.2.2.2.2]
        have hwo : wo.heap.size < wr.heap.size := HR.out.2.2.2.2.2.2.1
        by_cases hlt : i < us.length
        · have hlt' : i < vs.length := by rw [← HPL.out.1]; exact hlt
          obtain ⟨a, c, css, e, -, -, hrow, hk⟩ := node.nds_open HRP.out.1
          cases e
          obtain ⟨a', c', css', e, -, -, hrow', hk'⟩ := value.values_open HRP.out.2
          cases e
          obtain ⟨b, o, rfl, hS, hc⟩ := hrow i hlt
          have hrep := hk i hlt
          obtain ⟨b', o', rfl, hS', hc'⟩ := hrow' i hlt'
          have hrep' := hk' i hlt'
          obtain ⟨x0, x1, x2, x3, ak, ck, ks, hT, hcs, -, -, fk⟩ := node.nd_open hrep
          obtain ⟨y0, y1, y2, js, aj, cj, hT', hcs', -, -, -, gk'⟩ := value.value_open hrep'
          rw [hcs] at hc
          rw [hcs'] at hc'
          have HLB : Hid (b < n + 5 ∧ b ≠ n + 2 ∧ b' < n + 5 ∧ b' ≠ n + 2) := ⟨hS.1, hS.2.1, hS'.1, hS'.2.1⟩
          have VC : Hid (W0.cell? ⟨b', o' + i * 4, none⟩ = some (.int .i64 y0) ∧ W0.cell? ⟨b', o' + i * 4 + 1, none⟩ = some (.int .i64 y1) ∧ W0.cell? ⟨b', o' + i * 4 + 2, none⟩ = some (.string y2) ∧ W0.cell? ⟨b', o' + i * 4 + 3, none⟩ = some (.slice aj js.length cj)) := ⟨hc' 0 _ rfl, hc' 1 _ rfl, hc' 2 _ rfl, hc' 3 _ rfl⟩
          have low : ∀ q, q < n + 5 → q ≠ n + 2 → wr.heap[q]? = W0.heap[q]? := HR.out.1.low
          have e0 : wr.cell? ⟨b, o + i * 5, none⟩ = some (.int .i64 x0) := (World.cell?_of_block (w := W0) (a := ⟨b, o + i * 5, none⟩) (low b hS.1 hS.2.1)).trans (hc 0 _ rfl)
          have e1 : wr.cell? ⟨b, o + i * 5 + 1, none⟩ = some (.int .i64 x1) := (World.cell?_of_block (w := W0) (a := ⟨b, o + i * 5 + 1, none⟩) (low b hS.1 hS.2.1)).trans (hc 1 _ rfl)
          have e2 : wr.cell? ⟨b, o + i * 5 + 2, none⟩ = some (.string x2) := (World.cell?_of_block (w := W0) (a := ⟨b, o + i * 5 + 2, none⟩) (low b hS.1 hS.2.1)).trans (hc 2 _ rfl)
          have e3 : wr.cell? ⟨b, o + i * 5 + 3, none⟩ = some (.string x3) := (World.cell?_of_block (w := W0) (a := ⟨b, o + i * 5 + 3, none⟩) (low b hS.1 hS.2.1)).trans (hc 3 _ rfl)
          have e4 : wr.cell? ⟨b, o + i * 5 + 4, none⟩ = some (.slice ak ks.length ck) := (World.cell?_of_block (w := W0) (a := ⟨b, o + i * 5 + 4, none⟩) (low b hS.1 hS.2.1)).trans (hc 4 _ rfl)
          have hkm2 : (ks.length : Int) ≤ 9223372036854775807 := by
            obtain ⟨a, c, css, e, h1, h2, -⟩ := fk
            unfold maxLen at h2
            omega
          have hjm2 : (js.length : Int) ≤ 9223372036854775807 := by
            obtain ⟨a, c, css, e, h1, h2, -⟩ := gk'
            unfold maxLen at h2
            omega
          have hbw : b < wr.heap.size := Nat.lt_of_lt_of_le hS.1 HR.out.1.size
          have FK : Hid (ndSh.slice.rep W0 (fun b => b < n + 5 ∧ b ≠ n + 2 ∧ Plain W0 b) [.slice ak ks.length ck] ks) := fk
          have GK : Hid (valueSh.slice.rep W0 (fun b => b < n + 5 ∧ b ≠ n + 2 ∧ Plain W0 b) [.slice aj js.length cj] js) := gk'
          have HTT : Hid (us[i] = .mk (x0, x1, x2, x3) ks ∧ vs[i] = .mk (y0, y1, y2) js) := ⟨hT, hT'⟩
          have hn5r : n + 5 ≤ wr.heap.size := HR.out.1.size
          have BA : Hid (Below wr.heap.size wr (wr.alloc (.cells #[.int .i64 x0, .int .i64 x1, .string x2, .string x3, .slice ak ks.length ck] 36))) := (Below.refl _ _).alloc (Nat.le_refl _) _
          have Y1 : Hid ((wr.alloc (.cells #[.int .i64 x0, .int .i64 x1, .string x2, .string x3, .slice ak ks.length ck] 36)).heap[wr.heap.size]? = some (.cells #[.int .i64 x0, .int .i64 x1, .string x2, .string x3, .slice ak ks.length ck] 36)) := alloc_top _ _
          have Y3 : Hid ((wr.alloc (.cells #[.int .i64 x0, .int .i64 x1, .string x2, .string x3, .slice ak ks.length ck] 36)).heap.size = wr.heap.size + 1) := by show _ = _; simp
          clear hrow hk hrow' hk' hrep hrep' hcs hcs' hc hc' low fk gk' hT hT' hS hS'
          have hcall := anything_any x0 x1 x2 x3 ak ks.length ck (wr.alloc (.cells #[.int .i64 x0, .int .i64 x1, .string x2, .string x3, .slice ak ks.length ck] 36))
          obtain ⟨any, hany⟩ : ∃ any, any = decide (x0 = 17 ∨ x0 = 18) := ⟨_, rfl⟩
          rw [← hany] at hcall
          have HANY : Hid (any = decide (x0 = 17 ∨ x0 = 18)) := hany
          clear hany
          go_wp2_with fail
          refine hcall.mono ?_
          rintro e w1 ⟨rfl, hb⟩
          have A1 : Hid (Below wr.heap.size wr w1) := BA.out.trans (hb.mono (by rw [Y3.out]; omega))
          have X1 : Hid (w1.heap[wr.heap.size]? = some (.cells #[.int .i64 x0, .int .i64 x1, .string x2, .string x3, .slice ak ks.length ck] 36)) := (hb.block _ (by rw [Y3.out]; omega)).trans Y1.out
          have Z1 : Hid (wr.heap.size + 1 ≤ w1.heap.size) := by have := hb.size; rw [Y3.out] at this; exact this
          clear hcall hb d0 d1 e0 e1 e2 e3 e4 BA Y1 Y3
          have hone : ∀ PS', (∀ q ∈ PS, q ∈ PS') → One PS' us[i] vs[i] → ∀ j (h : j < us.length) (h' : j < vs.length), j < i + 1 → One PS' us[j] vs[j] := fun PS' hsub hcov j h1 h2 hj => by
            by_cases hji : j = i
            · subst hji
              exact hcov
            · exact (HR.out.2.2.2.1 j h1 h2 (by omega)).more hsub
          have HONE : Hid (∀ PS', (∀ q ∈ PS, q ∈ PS') → One PS' us[i] vs[i] → ∀ j (h : j < us.length) (h' : j < vs.length), j < i + 1 → One PS' us[j] vs[j]) := hone
          have HDR : Hid ((allS (us.drop i)).length = (allS ks).length + 1 + (allS (us.drop (i + 1))).length) := by
            have := allS_drop hlt
            rw [HTT.out.1] at this
            exact this
          clear hone
          have c10 : w1.cell? ⟨wr.heap.size, 0, none⟩ = some (.int .i64 x0) := by simp [World.cell?, X1.out]
          have c11 : w1.cell? ⟨wr.heap.size, 1, none⟩ = some (.int .i64 x1) := by simp [World.cell?, X1.out]
          have c12 : w1.cell? ⟨wr.heap.size, 2, none⟩ = some (.string x2) := by simp [World.cell?, X1.out]
          have c13 : w1.cell? ⟨wr.heap.size, 3, none⟩ = some (.string x3) := by simp [World.cell?, X1.out]
          have c14 : w1.cell? ⟨wr.heap.size, 4, none⟩ = some (.slice ak ks.length ck) := by simp [World.cell?, X1.out]
          cases any with
          | true =>
            go_wp2
            go_round
            case rel =>
              refine ⟨PS, st, i + 1, by omega, by go_num, HR.out.1.on (by omega) A1.out, HR.out.2.1, HR.out.2.2.1, HONE.out PS (fun _ h => h) (.inl (by rw [HTT.out.1]; exact of_decide_eq_true HANY.out.symm)), ?_, HR.out.2.2.2.2.2.1.trans (A1.out.mono (by omega)), ?_, HR.out.2.2.2.2.2.2.2.1, (A1.out.block _ hwo).trans HR.out.2.2.2.2.2.2.2.2⟩
              · have h1 := HR.out.2.2.2.2.1
                have h2 := HDR.out
                omega
              · have h2 := Z1.out
                omega
            case measure => simp [intOf]; omega
          | false =>
          have NANY : Hid (¬ (x0 = 17 ∨ x0 = 18)) := of_decide_eq_false HANY.out.symm
          clear HANY
          have hcall := headOf_any x0 x1 x2 x3 ak ks.length ck hkm2 w1
          obtain ⟨⟨h0, h1, h2, h3⟩, hh⟩ : ∃ h, h = asked x0 x1 x2 (ks.length : Int) := ⟨_, rfl⟩
          obtain ⟨okb, hok⟩ : ∃ okb, okb = decide (x0 = 20 ∨ x0 = 19) := ⟨_, rfl⟩
          rw [← hh, ← hok] at hcall
          unfold hdV at hcall
          dsimp only at hcall
          have HH : Hid ((h0, h1, h2, h3) = asked x0 x1 x2 (ks.length : Int)) := hh
          have HOK : Hid (okb = decide (x0 = 20 ∨ x0 = 19)) := hok
          clear hh hok
          go_wp2_with fail
          refine hcall.mono ?_
          rintro e w2 ⟨rfl, hb⟩
          have A2 : Hid (Below wr.heap.size wr w2) := A1.out.trans (hb.mono A1.out.size)
          have X2 : Hid (w2.heap[wr.heap.size]? = some (.cells #[.int .i64 x0, .int .i64 x1, .string x2, .string x3, .slice ak ks.length ck] 36)) := (hb.block _ (by have := Z1.out; omega)).trans X1.out
          have Z2 : Hid (wr.heap.size + 1 ≤ w2.heap.size) := Nat.le_trans Z1.out hb.size
          clear hcall hb c10 c11 c12 c13 c14 A1 X1 Z1
          have f0 : w2.cell? ⟨wo.heap.size, 1, none⟩ = some (.slice (some ⟨b', o', none⟩) vs.length k2) := by
            have : w2.heap[wo.heap.size]? = _ := (A2.out.block _ hwo).trans HR.out.2.2.2.2.2.2.2.2
            simp [World.cell?, this]
          have lowb : w2.heap[b']? = W0.heap[b']? := (A2.out.block _ (by have := HLB.out; omega)).trans (HR.out.1.low b' HLB.out.2.2.1 HLB.out.2.2.2)
          have e0' : w2.cell? ⟨b', o' + i * 4, none⟩ = some (.int .i64 y0) := (World.cell?_of_block (w := W0) (a := ⟨b', o' + i * 4, none⟩) lowb).trans VC.out.1
          have e1' : w2.cell? ⟨b', o' + i * 4 + 1, none⟩ = some (.int .i64 y1) := (World.cell?_of_block (w := W0) (a := ⟨b', o' + i * 4 + 1, none⟩) lowb).trans VC.out.2.1
          have e2' : w2.cell? ⟨b', o' + i * 4 + 2, none⟩ = some (.string y2) := (World.cell?_of_block (w := W0) (a := ⟨b', o' + i * 4 + 2, none⟩) lowb).trans VC.out.2.2.1
          have e3' : w2.cell? ⟨b', o' + i * 4 + 3, none⟩ = some (.slice aj js.length cj) := (World.cell?_of_block (w := W0) (a := ⟨b', o' + i * 4 + 3, none⟩) lowb).trans VC.out.2.2.2
          have zb : b' < w2.heap.size := by have h1 := Z2.out; have h2 := HLB.out; omega
          have zo : wo.heap.size < w2.heap.size := by have h1 := Z2.out; omega
          clear lowb
          have hcall := toldShape_any y0 y1 y2 aj js.length cj hjm2 (w2.alloc (.cells #[.int .i64 h0, .int .i64 h1, .string h2, .int .i64 h3] 104))
          obtain ⟨⟨g0, g1, g2, g3⟩, hg⟩ : ∃ h, h = owned y0 y1 y2 (js.length : Int) := ⟨_, rfl⟩
          rw [← hg] at hcall
          unfold hdV at hcall
          dsimp only at hcall
          have HG : Hid ((g0, g1, g2, g3) = owned y0 y1 y2 (js.length : Int)) := hg
          have BB : Hid (Below w2.heap.size w2 (w2.alloc (.cells #[.int .i64 h0, .int .i64 h1, .string h2, .int .i64 h3] 104))) := (Below.refl _ _).alloc (Nat.le_refl _) _
          have Y2 : Hid ((w2.alloc (.cells #[.int .i64 h0, .int .i64 h1, .string h2, .int .i64 h3] 104)).heap[w2.heap.size]? = some (.cells #[.int .i64 h0, .int .i64 h1, .string h2, .int .i64 h3] 104)) := alloc_top _ _
          have Y4 : Hid ((w2.alloc (.cells #[.int .i64 h0, .int .i64 h1, .string h2, .int .i64 h3] 104)).heap.size = w2.heap.size + 1) := by show _ = _; simp
          clear hg
          go_wp2_with fail
          refine hcall.mono ?_
          rintro e w3 ⟨rfl, hb⟩
          have A3 : Hid (Below wr.heap.size wr w3) := A2.out.trans ((BB.out.trans (hb.mono (by rw [Y4.out]; omega))).mono (by have := Z2.out; omega))
          have X3 : Hid (w3.heap[wr.heap.size]? = some (.cells #[.int .i64 x0, .int .i64 x1, .string x2, .string x3, .slice ak ks.length ck] 36)) := ((BB.out.trans (hb.mono (by rw [Y4.out]; omega))).block _ (by have := Z2.out; omega)).trans X2.out
          have XH : Hid (w3.heap[w2.heap.size]? = some (.cells #[.int .i64 h0, .int .i64 h1, .string h2, .int .i64 h3] 104)) := (hb.block _ (by rw [Y4.out]; omega)).trans Y2.out
          have Z3 : Hid (w2.heap.size + 1 ≤ w3.heap.size) := by have := hb.size; rw [Y4.out] at this; exact this
          clear hcall hb f0 e0' e1' e2' e3' A2 X2 BB Y2 Y4 zb zo VC
          have z0 : wr.heap.size < w3.heap.size := by have h1 := Z2.out; have h2 := Z3.out; omega
          have z1 : w2.heap.size < w3.heap.size := by have h2 := Z3.out; omega
          have m0 : w3.cell? ⟨w2.heap.size, 0, none⟩ = some (.int .i64 h0) := by simp [World.cell?, XH.out]
          have m1 : w3.cell? ⟨w2.heap.size, 1, none⟩ = some (.int .i64 h1) := by simp [World.cell?, XH.out]
          have m2 : w3.cell? ⟨w2.heap.size, 2, none⟩ = some (.string h2) := by simp [World.cell?, XH.out]
          have m3 : w3.cell? ⟨w2.heap.size, 3, none⟩ = some (.int .i64 h3) := by simp [World.cell?, XH.out]
          have d14 : w3.cell? ⟨wr.heap.size, 4, none⟩ = some (.slice ak ks.length ck) := by simp [World.cell?, X3.out]
          have B3 : Hid (Below n w w3) := HR.out.2.2.2.2.2.1.trans (A3.out.mono (by omega))
          have hsame : ¬ Loc us[i] vs[i] → fitsB T T' = false := fun hnl => fitsB_false fun e => by
            have q := HR.out.1.same e _ HR.out.2.1 i hlt hlt'
            dsimp only at q
            exact hnl (fits_loc q (by rw [HTT.out.1]; exact NANY.out))
          have HSAME : Hid (¬ Loc us[i] vs[i] → fitsB T T' = false) := hsame
          clear hsame
          cases okb with
          | false =>
            have Q : Hid (fitsB T T' = false) := HSAME.out fun hl => by
              rw [HTT.out.1, HTT.out.2, loc_iff] at hl
              exact of_decide_eq_false HOK.out.symm hl.1
            go_wp2
            go_ret
            refine ⟨ret_b Q.out.symm, by rw [← HN.out]; exact B3.out.alloc (by omega) _⟩
          | true =>
          by_cases hal : (h0, h1, h2, h3) = (g0, g1, g2, g3)
          case neg =>
            have Q : Hid (fitsB T T' = false) := HSAME.out fun hl => by
              rw [HTT.out.1, HTT.out.2, loc_iff, ← HH.out, ← HG.out] at hl
              exact hal hl.2
            have BQ : Hid (Below n w (w3.alloc (.cells #[.int .i64 g0, .int .i64 g1, .string g2, .int .i64 g3] 104))) := B3.out.alloc (by omega) _
            clear HSAME HH HG HOK d14
            by_cases q0 : h0 = g0
            case neg =>
              have r0 : (h0 == g0) = false := by simpa using q0
              clear hal
              go_wp2
              go_ret
              exact ⟨ret_b Q.out.symm, by rw [← HN.out]; exact BQ.out⟩
            subst q0
            by_cases q1 : h1 = g1
            case neg =>
              have r0 : (h1 == g1) = false := by simpa using q1
              clear hal
              go_wp2
              go_ret
              exact ⟨ret_b Q.out.symm, by rw [← HN.out]; exact BQ.out⟩
            subst q1
            by_cases q2 : h2 = g2
            case neg =>
              have r0 : (h2.toList == g2.toList) = false := by simpa using fun e => q2 (bytes_ext e)
              clear hal q2
              go_wp2
              go_ret
              exact ⟨ret_b Q.out.symm, by rw [← HN.out]; exact BQ.out⟩
            subst q2
            have q3 : ¬ h3 = g3 := fun e => hal (by rw [e])
            have r0 : (h3 == g3) = false := by simpa using q3
            clear hal
            go_wp2
            go_ret
            exact ⟨ret_b Q.out.symm, by rw [← HN.out]; exact BQ.out⟩
          simp only [Prod.mk.injEq] at hal
          obtain ⟨rfl, rfl, rfl, rfl⟩ := hal
          have HLOC : Hid (Loc us[i] vs[i]) := by
            show Loc _ _
            rw [HTT.out.1, HTT.out.2, loc_iff, ← HH.out, ← HG.out]
            exact ⟨of_decide_eq_true HOK.out.symm, rfl⟩
          obtain ⟨w4, hw4⟩ : ∃ w4, w4 = w3.alloc (.cells #[.int .i64 h0, .int .i64 h1, .string h2, .int .i64 h3] 104) := ⟨_, rfl⟩
          have BD : Hid (Below w3.heap.size w3 w4) := by show Below _ _ _; rw [hw4]; exact (Below.refl _ _).alloc (Nat.le_refl _) _
          have I4 : Hid (SInv K 100 W0 (n + 2) (n + 5) T T' w4 PS st u8) := HR.out.1.on (by omega) (A3.out.trans (BD.out.mono (by omega)))
          have B4 : Hid (Below n w w4) := B3.out.trans (BD.out.mono (by omega))
          have X4 : Hid (w4.heap[wo.heap.size]? = some (.cells #[.slice (some ⟨b, o, none⟩) us.length k1, .slice (some ⟨b', o', none⟩) vs.length k2] 100)) := (BD.out.block _ (by omega)).trans ((A3.out.block _ hwo).trans HR.out.2.2.2.2.2.2.2.2)
          have S4 : Hid (wr.heap.size < w4.heap.size ∧ w2.heap.size < w4.heap.size) := ⟨Nat.lt_of_lt_of_le z0 BD.out.size, Nat.lt_of_lt_of_le z1 BD.out.size⟩
          have HW4 : Hid (w4 = w3.alloc (.cells #[.int .i64 h0, .int .i64 h1, .string h2, .int .i64 h3] 104)) := hw4
          clear hw4
          by_cases hz : h3 = 0
          · subst hz
            have HC : Hid (One PS us[i] vs[i]) := .inr ⟨HLOC.out, fun e => .inl (by
              rw [HTT.out.1] at e ⊢
              simp only [Rose.x] at e
              have := HH.out
              rw [e] at this
              simp only [asked, if_true, Prod.mk.injEq] at this
              exact List.eq_nil_of_length_eq_zero (by have := this.2.2.2; show ks.length = 0; omega))⟩
            go_wp2
            rw [← HW4.out]
            go_round
            case rel =>
              refine ⟨PS, st, i + 1, by omega, by go_num, I4.out, HR.out.2.1, HR.out.2.2.1, HONE.out PS (fun _ h => h) HC.out, ?_, B4.out, ?_, HR.out.2.2.2.2.2.2.2.1, X4.out⟩
              · have h1 := HR.out.2.2.2.2.1
                have h2 := HDR.out
                omega
              · have h1 := S4.out.1
                omega
            case measure => simp [intOf]; omega
          have H20 : Hid (x0 = 20 ∧ h3 = (ks.length : Int)) := by
            have h1 := HH.out
            rcases of_decide_eq_true HOK.out.symm with e | e
            · rw [e] at h1
              simp only [asked, if_true, Prod.mk.injEq] at h1
              exact ⟨e, h1.2.2.2⟩
            · rw [e] at h1
              simp [asked] at h1
              exact absurd h1.2.2.2 hz
          have hks : h3 = (ks.length : Int) := H20.out.2
          subst hks
          have hkp : 0 < ks.length := by omega
          have HKJ : Hid (ks.length = js.length) := by
            rcases HLOC.out with h | h
            · have := H20.out.1
              rw [HTT.out.1] at h
              simp only [Rose.x] at h
              omega
            · rw [HTT.out.1, HTT.out.2] at h
              simp only [Rose.kids] at h
              exact h.2.2.2.symm
          have hjp : 0 < js.length := by rw [← HKJ.out]; exact hkp
          have hjk : js.length = ks.length := HKJ.out.symm
          obtain ⟨q1, q2, csk, e, hkc, hkm, hrk, -⟩ := node.nds_open FK.out
          cases e
          obtain ⟨bk, ok, rfl, hSk, -⟩ := hrk 0 hkp
          obtain ⟨q1', q2', csj, e, hjc, hjm, hrj, -⟩ := value.values_open GK.out
          cases e
          obtain ⟨bj, oj, rfl, hSj, -⟩ := hrj 0 hjp
          have SK : Hid (Plain w4 bk ∧ Plain w4 bj) := ⟨hSk.2.2.on (I4.out.low bk hSk.1 hSk.2.1), hSj.2.2.on (I4.out.low bj hSj.1 hSj.2.1)⟩
          clear hrk hrj hSk hSj hkc hjc hkm hjm
          rw [hjk]
          go_wp2
          rw [← HW4.out]
          have d14 : w4.cell? ⟨wr.heap.size, 4, none⟩ = some (.slice (some ⟨bk, ok, none⟩) ks.length ck) := (BD.out.cell (p := ⟨wr.heap.size, 4, none⟩) z0).trans d14
          have m3 : w4.cell? ⟨w2.heap.size, 3, none⟩ = some (.int .i64 (ks.length : Int)) := (BD.out.cell (p := ⟨w2.heap.size, 3, none⟩) z1).trans m3
          have s1 := S4.out.1
          have s2 := S4.out.2
          clear m0 m1 m2 z0 z1 BD HW4
          go_region
          obtain ⟨X, hX⟩ : ∃ X, X = (w4.alloc (.cells #[.pointer (some ⟨bk, ok, none⟩), .pointer (some ⟨bj, oj, none⟩)] 110)).drew := ⟨_, rfl⟩
          have BX : Below w4.heap.size w4 X := by rw [hX]; exact ((Below.refl _ _).alloc (Nat.le_refl _) _).drew
          have SX : X.heap.size = w4.heap.size + 1 := by rw [hX]; show (w4.alloc _).heap.size = _; simp
          have CX : X.heap[w4.heap.size]? = some (.cells #[.pointer (some ⟨bk, ok, none⟩), .pointer (some ⟨bj, oj, none⟩)] 110) := by rw [hX]; exact alloc_top _ _
          rw [← hX]
          have I2 : Hid (SInv K 100 W0 (n + 2) (n + 5) T T' X.drew PS st u8) := I4.out.on (by omega) BX.drew
          have B2 : Hid (Below n w X.drew) := B4.out.trans (BX.drew.mono (by have := I4.out.size; omega))
          have X3' : Hid (X.drew.heap[wo.heap.size]? = some (.cells #[.slice (some ⟨b, o, none⟩) us.length k1, .slice (some ⟨b', o', none⟩) vs.length k2] 100)) := (BX.drew.block _ (by omega)).trans X4.out
          have SZ2 : Hid (X.drew.heap.size = w4.heap.size + 1) := SX
          have f10 : X.cell? ⟨wr.heap.size, 4, none⟩ = some (.slice (some ⟨bk, ok, none⟩) ks.length ck) := (BX.cell (p := ⟨wr.heap.size, 4, none⟩) s1).trans d14
          have f11 : X.cell? ⟨w2.heap.size, 3, none⟩ = some (.int .i64 (ks.length : Int)) := (BX.cell (p := ⟨w2.heap.size, 3, none⟩) s2).trans m3
          have f12 : X.cell? ⟨w4.heap.size, 0, none⟩ = some (.pointer (some ⟨bk, ok, none⟩)) := by simp [World.cell?, CX]
          have f13 : X.cell? ⟨w4.heap.size, 1, none⟩ = some (.pointer (some ⟨bj, oj, none⟩)) := by simp [World.cell?, CX]
          have z3 : wr.heap.size < X.heap.size := by omega
          have z4 : w2.heap.size < X.heap.size := by omega
          have PK : Hid (Plain X.drew bk ∧ Plain X.drew bj) := ⟨SK.out.1.on (BX.drew.block _ (by obtain ⟨_, _, hh⟩ := SK.out.1; exact (Array.getElem?_eq_some_iff.1 hh).1)), SK.out.2.on (BX.drew.block _ (by obtain ⟨_, _, hh⟩ := SK.out.2; exact (Array.getElem?_eq_some_iff.1 hh).1))⟩
          clear hX BX SX CX d14 m3 I4 B4 X4 X3 XH B3 A3
          obtain ⟨m, hmap, hmet⟩ := I2.out.map
          have hokm : ∀ e ∈ m, K.ok X.drew e.1 := fun e he => by
            obtain ⟨q, hq, e1, e2, -⟩ := hmet e he
            exact (HK.out.2 _ _).2 (I2.out.plain hq e1 e2)
          have hokk : K.ok X.drew (⟨bk, ok, none⟩, ⟨bj, oj, none⟩) := (HK.out.2 _ _).2 PK.out
          obtain ⟨lv, hlook0, hlv⟩ := hmap.look (t := 98) Tryz.underlying98 (Tryz.zeroValue3 X.drew) hokk hokm
          obtain ⟨L, rfl, hL⟩ : ∃ L : Int, lv = .int .i64 L ∧ (L = 0 ∨ ((⟨bk, ok, none⟩, ⟨bj, oj, none⟩), .int .i64 L) ∈ m) := by
            rcases hlv with rfl | hlv
            · exact ⟨0, rfl, .inl rfl⟩
            · obtain ⟨q, -, -, -, e3⟩ := hmet _ hlv
              exact ⟨_, e3, .inr (by rw [← e3]; exact hlv)⟩
          obtain ⟨w5, m3, hst0, hmap3, hm3, hg3⟩ := hmap.store (t := 98) Tryz.underlying98 hokk hokm (.int .i64 (ks.length : Int))
          rw [HK.out.1] at hlook0 hst0
          have hlook : (Instr.lookup 98 (.map (some (n + 1 + 1))) (.agg #[.pointer (some ⟨bk, ok, none⟩), .pointer (some ⟨bj, oj, none⟩)]) false).run Tryz.prog X.drew = .ok (.int .i64 L) X.drew := hlook0
          have hst3 : (Instr.mapUpdate 98 (.map (some (n + 1 + 1))) (.agg #[.pointer (some ⟨bk, ok, none⟩), .pointer (some ⟨bj, oj, none⟩)]) (.int .i64 (ks.length : Int))).run Tryz.prog X.drew = .ok () w5 := hst0
          have HLL : Hid (L = 0 ∨ ((⟨bk, ok, none⟩, ⟨bj, oj, none⟩), .int .i64 L) ∈ m) := hL
          have HME : Hid (∀ e ∈ m, ∃ p ∈ PS, p.1.1 = some e.1.1 ∧ p.2.1 = some e.1.2 ∧ e.2 = .int .i64 p.1.2.2.length) := hmet
          have HM3 : Hid (KMap K w5 (n + 2) m3 ∧ (∀ e ∈ m3, e ∈ m ∨ e = ((⟨bk, ok, none⟩, ⟨bj, oj, none⟩), .int .i64 (ks.length : Int))) ∧ X.drew.grownBy w5 (some (n + 2))) := ⟨hmap3, hm3, hg3⟩
          clear hlook0 hst0 hlv hL hmet hokm hokk hmap hmap3 hm3 hg3
          have GKL : Hid (valueSh.slice.rep W0 (fun b => b < n + 5 ∧ b ≠ n + 2 ∧ Plain W0 b) [.slice (some ⟨bj, oj, none⟩) js.length cj] js) := GK.out
          by_cases hLk : L < (ks.length : Int)
          case neg =>
            clear hst3
            go_wp2
            go_region
            go_wp2
            go_round
            case rel =>
              refine ⟨PS, st, i + 1, by omega, by go_num, I2.out, HR.out.2.1, HR.out.2.2.1, HONE.out PS (fun _ h => h) (.inr ⟨HLOC.out, ?_⟩), ?_, B2.out, ?_, HR.out.2.2.2.2.2.2.2.1, X3'.out⟩
              · have hm := HLL.out.resolve_left (by omega)
                refine I2.out.cov HME.out hm (c1 := ck) (c2 := cj) ?_ ?_ ?_ ?_
                · rw [HTT.out.1]; exact FK.out
                · rw [HTT.out.2]; exact GKL.out
                · rw [HTT.out.1, HTT.out.2]; exact HKJ.out
                · rw [HTT.out.1]; show (ks.length : Int) ≤ L; omega
              · have h1 := HR.out.2.2.2.2.1
                have h2 := HDR.out
                omega
              · rw [SZ2.out]; omega
            case measure => simp [intOf]; omega
          have I3 : Hid (SInv K 100 W0 (n + 2) (n + 5) T T' w5 (PS ++ [((some ⟨bk, ok, none⟩, ck, ks), (some ⟨bj, oj, none⟩, cj, js))]) st u8) := by
            refine I2.out.meet (by omega) ?_ ⟨HKJ.out, hkp⟩ ?_ rfl rfl HME.out HM3.out.1 HM3.out.2.1 HM3.out.2.2
            · exact pr_shut (p := ((some ⟨bk, ok, none⟩, ck, ks), (some ⟨bj, oj, none⟩, cj, js))) FK.out GKL.out
            · intro e
              have h1 := I2.out.same e _ HR.out.2.1 i hlt hlt'
              dsimp only at h1
              rw [HTT.out.1, HTT.out.2] at h1
              exact fits_kids h1 H20.out.1
          have k3 : ∀ q, q < X.drew.heap.size → q ≠ n + 2 → w5.heap[q]? = X.drew.heap[q]? := fun q h1 h2 => HM3.out.2.2.block q h1 fun e => h2 (Option.some.inj e)
          have hn5 : n + 5 ≤ wo.heap.size := by have h1 := HGZ.out.1; omega
          have hzz : n + 5 ≤ wr.heap.size := by omega
          have s3 : wr.heap.size < w5.heap.size := by have := HM3.out.2.2.size; rw [SZ2.out] at this; omega
          have g10 : w5.cell? ⟨wr.heap.size, 4, none⟩ = some (.slice (some ⟨bk, ok, none⟩) ks.length ck) := (World.cell?_of_block (w := X.drew) (a := ⟨wr.heap.size, 4, none⟩) (k3 _ (by rw [SZ2.out]; show wr.heap.size < _; omega) (by show wr.heap.size ≠ _; omega))).trans f10
          have X5 : Hid (w5.heap[wo.heap.size]? = some (.cells #[.slice (some ⟨b, o, none⟩) us.length k1, .slice (some ⟨b', o', none⟩) vs.length k2] 100)) := (k3 _ (by rw [SZ2.out]; omega) (by omega)).trans X3'.out
          have B5 : Hid (Below n w w5) := B2.out.grown HM3.out.2.2 (by rw [SZ2.out]; omega) (fun q e => by cases e; omega)
          clear k3 HM3 HLL
          obtain ⟨Y, hY⟩ : ∃ Y, Y = w5.alloc (.cells #[.slice (some ⟨bk, ok, none⟩) ks.length ck, .slice (some ⟨bj, oj, none⟩) ks.length cj] 100) := ⟨_, rfl⟩
          have BY : Below w5.heap.size w5 Y := by rw [hY]; exact (Below.refl _ _).alloc (Nat.le_refl _) _
          have I6 : Hid (SInv K 100 W0 (n + 2) (n + 5) T T' Y (PS ++ [((some ⟨bk, ok, none⟩, ck, ks), (some ⟨bj, oj, none⟩, cj, js))]) st u8) := I3.out.on (by omega) BY
          obtain ⟨cs4, hrow4, hcr4⟩ := I6.out.row
          have HCR : Hid _ := hcr4
          have HROW4 : Hid (Y.ownsRow (n + 5) 100 2 u8 st.length (flat cs4 st.length)) := hrow4
          have hstl : st.length ≤ 1048577 := by
            have h1 := mu_len st fun q hq => (I2.out.len q (I2.out.sub q hq)).2
            have h2 := HR.out.2.2.2.2.1
            have h3 := HMU.out.2.1
            omega
          have hnews := cells_new w5 [.slice (some ⟨bk, ok, none⟩) ks.length ck, .slice (some ⟨bj, oj, none⟩) ks.length cj] 100 _ rfl
          rw [show (#[.slice (some ⟨bk, ok, none⟩) ks.length ck, .slice (some ⟨bj, oj, none⟩) ks.length cj] : Array Value) = [.slice (some ⟨bk, ok, none⟩) ks.length ck, .slice (some ⟨bj, oj, none⟩) ks.length cj].toArray from rfl] at hY
          rw [← hY] at hnews
          have HNEW : Hid _ := hnews
          have SY : Hid (Y.heap.size = w5.heap.size + 1) := by show _ = _; rw [hY]; simp
          have HYY : Hid (Y = w5.alloc (.cells #[.slice (some ⟨bk, ok, none⟩) ks.length ck, .slice (some ⟨bj, oj, none⟩) ks.length cj] 100)) := hY
          have BYY : Hid (Below w5.heap.size w5 Y) := BY
          clear hnews hrow4 hcr4 hY BY
          go_wp2
          go_region
          go_wp2_with (first
            | (at_builtin
               rw [← HYY.out]
               refine wpList_append_own_at _ rfl _ _ 101 rfl (n + 5) 100 ti _ 2 48 Tryz.underlying101 TI.out.1 TI.out.2.1 TI.out.2.2.1 TI.out.2.2.2 rfl (by decide) u8 st.length _ rfl HROW4.out ⟨w5.heap.size, 0, none⟩ 1 1 _ rfl rfl HNEW.out (by simp [Value.oneCell']) (by unfold maxLen; omega) (by omega) I6.out.size ?_
               intro v' w6 hown5 hgrow5 _ hat5)
            | fail)
          have GR5 : Hid (Y.grownBy w6 u8.ownBlock) := hgrow5
          have hwo5 : wo.heap.size < Y.heap.size := by rw [SY.out]; omega
          have hne5 := HR.out.2.2.2.2.2.2.2.1
          refine ⟨⟨PS ++ [((some ⟨bk, ok, none⟩, ck, ks), (some ⟨bj, oj, none⟩, cj, js))], st ++ [((some ⟨bk, ok, none⟩, ck, ks), (some ⟨bj, oj, none⟩, cj, js))], i + 1, by omega, by go_num, ?_, by simp [HR.out.2.1], ?_, ?_, ?_, ?_, ?_, ?_, ?_⟩, by simp [intOf]; omega⟩
          · refine I6.out.push (by omega) (by simp) HROW4.out HCR.out ?_ hgrow5
            show w6.ownsRow (n + 5) 100 2 v' (st.length + 1) (flat cs4 st.length ++ [.slice (some ⟨bk, ok, none⟩) ks.length ck, .slice (some ⟨bj, oj, none⟩) js.length cj])
            rw [← HKJ.out]
            exact hown5
          · intro q hq
            rcases List.mem_append.1 hq with hq | hq
            · rcases HR.out.2.2.1 q hq with h | h | h
              · exact .inl (by simp [h])
              · exact .inr (.inl h)
              · exact .inr (.inr (h.more fun x hx => by simp [hx]))
            · exact .inl (by simp at hq; simp [hq])
          · refine HONE.out _ (fun x hx => by simp [hx]) (.inr ⟨HLOC.out, fun _ => .inr ⟨_, List.mem_append_right _ (List.mem_singleton.2 rfl), ?_, ?_⟩⟩)
            · rw [HTT.out.1]; exact List.prefix_refl _
            · rw [HTT.out.2]; exact List.prefix_refl _
          · rw [mu_snoc]
            have h1 := HR.out.2.2.2.2.1
            have h2 := HDR.out
            dsimp only
            omega
          · refine (B5.out.trans (BYY.out.mono (by omega))).grown GR5.out (by rw [SY.out]; omega) fun q e => ?_
            have := (World.ownsRow.lt HROW4.out q e).1
            omega
          · exact Nat.lt_of_lt_of_le hwo5 GR5.out.size
          · rcases hat5 with h | h
            · rw [h]; exact hne5
            · rw [h]; intro e; have := Option.some.inj e; omega
          · rw [GR5.out.block _ hwo5 (fun e => hne5 e.symm), BYY.out.block _ (by omega)]
            exact X5.out
        · obtain rfl : i = us.length := by omega
          go_wp2
          go_roundg (mu st)
          case rel =>
            refine ⟨PS, st, rfl, HR.out.1, fun q hq => ?_, ?_, HR.out.2.2.2.2.2.1⟩
            · rcases HR.out.2.2.1 q hq with h | h | h
              · exact .inl h
              · subst h
                exact .inr fun j h1 h2 => HR.out.2.2.2.1 j h1 h2 h1
              · exact .inr h
            · have h1 := HR.out.2.2.2.2.1
              have h2 := HMU.out.2.2
              omega
          case measure =>
            have h1 := HR.out.2.2.2.2.1
            have h2 := HPL.out.2
            omega

end Go.Proofs.YtlnpfnglphdaiaaGreatDoor.fits

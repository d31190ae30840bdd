/-
  The program's Same, at every two types that lie in rows of cells which nothing froze: whether they are one; nothing that was there is turned.
-/
import Derived.Test.YtfekbchmgnpkaabSamePure
import Derived.Test.YtfekbchmgnpkaabSameSpec
import Derived.Deep.LoopGhost
import Derived.OwnWalk
import Derived.Maps.AppendAt
import Derived.Laws.AppendOwn
namespace Go.Proofs.Ytfekbchmgnpkaab.ty
open Go Go.RowKit Go.Deep Go.Proofs.Ytfekbchmgnpkaab.rose Go.Proofs.Ytfekbchmgnpkaab
set_option linter.unusedVariables false
set_option linter.unusedSimpArgs false

set_option maxHeartbeats 1000000 in
theorem alone_yes (x0 x1 : Int) (x2 : ByteArray) (a a' : Option Addr) (n c c' : Nat) (w : World) (hn : (n : Int) ≤ 9223372036854775807) :
    Calls Try.prog 11 #[.agg #[.int .i64 x0, .int .i64 x1, .string x2, .slice a n c], .agg #[.int .i64 x0, .int .i64 x1, .string x2, .slice a' n c']] w fun e w' => e = .returned (.bool true) ∧ Below w.heap.size w w' := by
  go_enter Try.func11, Try.ntmps11
  go_wp2
  go_ret
  exact ⟨rfl, ((Below.refl _ _).alloc (Nat.le_refl _) _).alloc (by simp) _⟩

set_option maxHeartbeats 2000000 in
theorem alone_no (x0 x1 y0 y1 : Int) (x2 y2 : ByteArray) (a a' : Option Addr) (n n' c c' : Nat) (w : World) (hn : (n : Int) ≤ 9223372036854775807) (h : ¬ ((x0, x1, x2) = (y0, y1, y2) ∧ n = n')) :
    Calls Try.prog 11 #[.agg #[.int .i64 x0, .int .i64 x1, .string x2, .slice a n c], .agg #[.int .i64 y0, .int .i64 y1, .string y2, .slice a' n' c']] w fun e w' => e = .returned (.bool false) ∧ Below w.heap.size w w' := by
  by_cases h0 : x0 = y0
  case neg =>
    have q0 : (x0 == y0) = false := by simpa using h0
    clear h
    go_enter Try.func11, Try.ntmps11
    go_wp2
    go_ret
    exact ⟨rfl, ((Below.refl _ _).alloc (Nat.le_refl _) _).alloc (by simp) _⟩
  subst h0
  by_cases h1 : x1 = y1
  case neg =>
    have q0 : (x1 == y1) = false := by simpa using h1
    clear h
    go_enter Try.func11, Try.ntmps11
    go_wp2
    go_ret
    exact ⟨rfl, ((Below.refl _ _).alloc (Nat.le_refl _) _).alloc (by simp) _⟩
  subst h1
  by_cases h2 : x2 = y2
  case neg =>
    have q2 : (x2.toList == y2.toList) = false := by simpa using fun e => h2 (bytes_ext e)
    clear h h2
    go_enter Try.func11, Try.ntmps11
    go_wp2
    go_ret
    exact ⟨rfl, ((Below.refl _ _).alloc (Nat.le_refl _) _).alloc (by simp) _⟩
  subst h2
  have q3 : ((n : Int) == (n' : Int)) = false := by
    have : n ≠ n' := fun e => h ⟨rfl, e⟩
    simp; omega
  have q4 : ¬ (n : Int) = (n' : Int) := by
    have : n ≠ n' := fun e => h ⟨rfl, e⟩
    omega
  clear h
  go_enter Try.func11, Try.ntmps11
  go_wp2
  go_ret
  exact ⟨rfl, ((Below.refl _ _).alloc (Nat.le_refl _) _).alloc (by simp) _⟩

/-- The cells of a new block. -/
theorem cells_new (w : World) (cs : List Value) (t : TypeId) (arr : Array Value) (ha : arr = cs.toArray) : ∀ j u, cs[j]? = some u → (w.alloc (.cells arr t)).cell? ((⟨w.heap.size, 0, none⟩ : Addr).add j) = some u := by
  subst ha
  intro j u hj
  have hh : (w.alloc (.cells cs.toArray t)).heap[w.heap.size]? = some (.cells cs.toArray t) := alloc_top w (.cells cs.toArray t)
  rw [add_plain, Nat.zero_add]
  simp only [World.cell?, hh]
  simpa using hj

set_option maxRecDepth 100000 in
theorem info_ty1 : (Try.prog.info? 29).map (fun i => i.size) = some 4 := by kernel_rfl
set_option maxRecDepth 100000 in
theorem info_lists : (Try.prog.info? 36).map (fun i => (i.zero, i.size, i.bytes)) = some (some (.agg #[.slice none 0 0, .slice none 0 0]), 2, 48) := by kernel_rfl
set_option maxRecDepth 100000 in
theorem pair_fields : (Try.prog.underlying 40).map (fun d => match d with | .struct fs => fs.toList.map (fun f => (f.name, f.type, f.offset)) | _ => []) = some [("one", 38, 0), ("other", 38, 1)] := by kernel_rfl
set_option maxRecDepth 100000 in
theorem pair_held : Try.prog.stoodInHeld 40 = false := by kernel_rfl

/-- The keys of the map. -/
theorem pair_kind : ∃ K : KeyKind Try.prog 40 (Addr × Addr), K.enc = pairEnc ∧ ∀ w p, K.ok w p ↔ (Plain w p.1.block ∧ Plain w p.2.block) := by
  obtain ⟨ti, hti, hsz⟩ := Option.map_eq_some_iff.1 info_ty1
  obtain ⟨d, hd, hfs⟩ := Option.map_eq_some_iff.1 pair_fields
  cases d with
  | struct fs => exact ⟨pairKind fs hd hfs (by decide) (by decide) pair_held Try.underlying38 hti (by omega), rfl, fun _ _ => Iff.rfl⟩
  | _ => simp at hfs

set_option maxRecDepth 100000 in
set_option maxHeartbeats 4000000 in
theorem implSame (T T' : TyD) (cs1 cs2 : List Value) (w : World) (hw : wt T ≤ 1048576) (h : tySh.rep w (fun b => b < w.heap.size ∧ Plain w b) cs1 T) (h' : tySh.rep w (fun b => b < w.heap.size ∧ Plain w b) cs2 T') :
    Calls Try.prog 7 #[.agg cs1.toArray, .agg cs2.toArray] w fun e w' => e = .returned (.bool (sameB T T')) ∧ Below w.heap.size w w' := by
  obtain ⟨K, hKe, hKo⟩ := pair_kind
  obtain ⟨ti, hti, hzz⟩ := Option.map_eq_some_iff.1 info_lists
  simp only [Prod.mk.injEq] at hzz
  obtain ⟨hz0, hz1, hz2⟩ := hzz
  have TI : Hid (Try.prog.info? 36 = some ti ∧ ti.zero = some (.agg #[.slice none 0 0, .slice none 0 0]) ∧ ti.size = 2 ∧ ti.bytes = 48) := ⟨hti, hz0, hz1, hz2⟩
  have HK : Hid (K.enc = pairEnc ∧ ∀ w p, K.ok w p ↔ (Plain w p.1.block ∧ Plain w p.2.block)) := ⟨hKe, hKo⟩
  clear hti hz0 hz1 hz2 hKe hKo
  have one := tySh.one h
  have one' := tySh.one h'
  obtain ⟨v0, v1, v2, v3, rfl⟩ := ty_list h
  obtain ⟨u0, u1, u2, u3, rfl⟩ := ty_list h'
  have o0 := one v0 (by simp)
  have o1 := one v1 (by simp)
  have o2 := one v2 (by simp)
  have o3 := one v3 (by simp)
  have p0 := one' u0 (by simp)
  have p1 := one' u1 (by simp)
  have p2 := one' u2 (by simp)
  have p3 := one' u3 (by simp)
  have HT : Hid _ := h
  have HT' : Hid _ := h'
  clear one one' h h'
  have hmm := @run_makeMap Try.prog
  obtain ⟨n, hn⟩ : ∃ n, n = w.heap.size := ⟨_, rfl⟩
  obtain ⟨W0, hW0⟩ : ∃ W0, W0 = ((((w.alloc (.cells #[v0, v1, v2, v3] 29)).alloc (.cells #[u0, u1, u2, u3] 29)).alloc (.map #[] 0)).alloc (.cells #[v0, v1, v2, v3] 29)).alloc (.cells #[u0, u1, u2, u3] 29) := ⟨_, rfl⟩
  have HZ : Hid (W0.heap.size = n + 5) := by show _ = _; rw [hW0, hn]; simp
  have HLOW : Hid (∀ b, b < n → W0.heap[b]? = w.heap[b]?) := fun b hb => by
    rw [hn] at hb
    rw [hW0, Below.heap_alloc _ _ _ (by simp; omega), Below.heap_alloc _ _ _ (by simp; omega), Below.heap_alloc _ _ _ (by simp; omega), Below.heap_alloc _ _ _ (by simp; omega), Below.heap_alloc _ _ _ (by omega)]
  have HM : Hid (W0.heap[n + 2]? = some (.map #[] 0)) := by
    show _ = _
    rw [hW0, hn, Below.heap_alloc _ _ _ (by simp), Below.heap_alloc _ _ _ (by simp)]
    have := alloc_top ((w.alloc (.cells #[v0, v1, v2, v3] 29)).alloc (.cells #[u0, u1, u2, u3] 29)) (.map #[] 0)
    simpa using this
  have H3 : Hid (W0.heap[n + 3]? = some (.cells #[v0, v1, v2, v3] 29)) := by
    show _ = _
    rw [hW0, hn, Below.heap_alloc _ _ _ (by simp)]
    have := alloc_top (((w.alloc (.cells #[v0, v1, v2, v3] 29)).alloc (.cells #[u0, u1, u2, u3] 29)).alloc (.map #[] 0)) (.cells #[v0, v1, v2, v3] 29)
    simpa using this
  have H4 : Hid (W0.heap[n + 4]? = some (.cells #[u0, u1, u2, u3] 29)) := by
    show _ = _
    rw [hW0, hn]
    have := alloc_top ((((w.alloc (.cells #[v0, v1, v2, v3] 29)).alloc (.cells #[u0, u1, u2, u3] 29)).alloc (.map #[] 0)).alloc (.cells #[v0, v1, v2, v3] 29)) (.cells #[u0, u1, u2, u3] 29)
    simpa using this
  have HW0 : Hid (W0 = ((((w.alloc (.cells #[v0, v1, v2, v3] 29)).alloc (.cells #[u0, u1, u2, u3] 29)).alloc (.map #[] 0)).alloc (.cells #[v0, v1, v2, v3] 29)).alloc (.cells #[u0, u1, u2, u3] 29)) := hW0
  have HN : Hid (n = w.heap.size) := hn
  have I0 : Hid (SInv K 36 W0 (n + 2) (n + 5) T T' (W0.alloc (.cells #[.slice (some ⟨n + 3, 0, none⟩) 1 1, .slice (some ⟨n + 4, 0, none⟩) 1 1] 36)) [((some ⟨n + 3, 0, none⟩, 1, [T]), (some ⟨n + 4, 0, none⟩, 1, [T']))] [((some ⟨n + 3, 0, none⟩, 1, [T]), (some ⟨n + 4, 0, none⟩, 1, [T']))] (.slice (some ⟨n + 5, 0, none⟩) 1 1)) := by
    have hS : ∀ b, b < w.heap.size ∧ Plain w b → b < n + 5 ∧ b ≠ n + 2 ∧ Plain W0 b := fun b hb => ⟨by omega, by omega, hb.2.on (HLOW.out b (by omega))⟩
    have r1 : tySh.rep W0 (fun b => b < n + 5 ∧ b ≠ n + 2 ∧ Plain W0 b) [v0, v1, v2, v3] T := tySh.mono (tySh.on HT.out fun b hb => HLOW.out b (by omega)) hS
    have r2 : tySh.rep W0 (fun b => b < n + 5 ∧ b ≠ n + 2 ∧ Plain W0 b) [u0, u1, u2, u3] T' := tySh.mono (tySh.on HT'.out fun b hb => HLOW.out b (by omega)) hS
    have one_row : ∀ (g : Nat) (c0 c1 c2 c3 : Value) (X : TyD), W0.heap[g]? = some (.cells #[c0, c1, c2, c3] 29) → g < n + 5 → g ≠ n + 2 → tySh.rep W0 (fun b => b < n + 5 ∧ b ≠ n + 2 ∧ Plain W0 b) [c0, c1, c2, c3] X → tySh.slice.rep W0 (fun b => b < n + 5 ∧ b ≠ n + 2 ∧ Plain W0 b) [.slice (some ⟨g, 0, none⟩) 1 1] [X] := fun g c0 c1 c2 c3 X hg h1 h2 hr => by
      refine ⟨some ⟨g, 0, none⟩, 1, fun _ => [c0, c1, c2, c3], rfl, Nat.le_refl _, by unfold maxLen; omega, (fun h => by cases h), fun i hi => ⟨g, 0, rfl, ⟨h1, h2, _, _, hg⟩, ?_⟩, fun i hi => ?_⟩
      · have : i = 0 := by simp at hi; omega
        subst this
        intro j u hj
        have hj4 : j < 4 := by
          rcases Nat.lt_or_ge j 4 with h | h
          · exact h
          · rw [List.getElem?_eq_none (by simpa using h)] at hj; cases hj
        simp only [World.cell?, hg]
        have : j = 0 ∨ j = 1 ∨ j = 2 ∨ j = 3 := by omega
        rcases this with rfl | rfl | rfl | rfl <;> simpa using hj
      · have : i = 0 := by simp at hi; omega
        subst this
        exact hr
    have s1 := one_row (n + 3) v0 v1 v2 v3 T H3.out (by omega) (by omega) r1
    have s2 := one_row (n + 4) u0 u1 u2 u3 T' H4.out (by omega) (by omega) r2
    have hbk : ∀ (o : Obj) b, b < n + 5 → (W0.alloc o).heap[b]? = W0.heap[b]? := fun o b hb => Below.heap_alloc _ _ _ (by rw [HZ.out]; exact hb)
    have rp := pr_shut (p := ((some ⟨n + 3, 0, none⟩, 1, [T]), (some ⟨n + 4, 0, none⟩, 1, [T']))) s1 s2
    refine ⟨by rw [World.size_alloc, HZ.out]; omega, fun b h1 _ => hbk _ b h1, ?_, ?_, ?_, ⟨((some ⟨n + 3, 0, none⟩, 1, [T]), (some ⟨n + 4, 0, none⟩, 1, [T'])), List.mem_singleton.2 rfl, rfl, rfl⟩, ⟨[], ?_, by simp⟩, ?_, by simp⟩
    · intro p hp
      simp only [List.mem_singleton] at hp
      subst hp
      exact rp
    · intro p hp
      simp only [List.mem_singleton] at hp
      subst hp
      exact ⟨rfl, by simp⟩
    · intro e p hp
      simp only [List.mem_singleton] at hp
      subst hp
      simp [e]
    · exact ⟨#[], 0, (hbk _ (n + 2) (by omega)).trans HM.out, rfl⟩
    · refine ⟨fun _ => [.slice (some ⟨n + 3, 0, none⟩) 1 1, .slice (some ⟨n + 4, 0, none⟩) 1 1], ⟨rfl, Or.inr ⟨n + 5, 1, #[.slice (some ⟨n + 3, 0, none⟩) 1 1, .slice (some ⟨n + 4, 0, none⟩) 1 1], rfl, Nat.le_refl _, ?_, Nat.le_refl _, by unfold maxLen; omega, rfl, rfl⟩⟩, fun i hi => ?_⟩
      · rw [← HZ.out]; exact alloc_top _ _
      · have : i = 0 := by simp at hi; omega
        subst this
        exact prSh.on rp fun b hb => hbk _ b hb.1
  have B0 : Hid (Below n w (W0.alloc (.cells #[.slice (some ⟨n + 3, 0, none⟩) 1 1, .slice (some ⟨n + 4, 0, none⟩) 1 1] 36))) := by
    have : Below n w W0 := by
      rw [hW0, hn]
      exact (((((Below.refl _ w).alloc (Nat.le_refl _) _).alloc (by simp) _).alloc (by simp; omega) _).alloc (by simp; omega) _).alloc (by simp; omega) _
    exact this.alloc (by rw [HZ.out]; omega) _
  have HTL : Hid ((allT T).length ≤ 1048577) := by have := all_le T; show _ ≤ _; omega
  clear hW0 hn hw
  go_enter Try.func7, Try.ntmps7
  go_wp2
  rw [← HN.out, ← HW0.out]
  go_loopg [6] ((allT T).length) (fun k v6 wr => ∃ (PS st : List PrD), k = mu st ∧ Hid (SInv K 36 W0 (n + 2) (n + 5) T T' wr PS st v6 ∧ (∀ p ∈ PS, p ∈ st ∨ Done PS p) ∧ mu st ≤ (allT T).length ∧ Below n w wr))
  case atStart => exact ⟨_, _, by simp [mu, allS_one], I0.out, fun p hp => .inl hp, by simp [mu, allS_one], B0.out⟩
  case round =>
    obtain ⟨PS, st, hk, HI⟩ := hrel
    rcases List.eq_nil_or_concat st with rfl | ⟨st', p, rfl⟩
    · obtain ⟨a, c, hv⟩ := HI.out.1.bot
      subst hv
      have Q : Hid (sameB T T' = true) := sameB_true (HI.out.1.fin fun p hp => (HI.out.2.1 p hp).resolve_left (by simp))
      go_wp2
      go_ret
      exact ⟨ret_b Q.out.symm, by rw [← HN.out]; exact HI.out.2.2.2⟩
    · rw [List.concat_eq_append] at HI hk
      obtain ⟨⟨a1, k1, us⟩, ⟨a2, k2, vs⟩⟩ := p
      obtain ⟨g, cap, rfl, hgb, hgz, hc1, hc2, c0, c1⟩ := HI.out.1.top
      dsimp only at c0 c1
      have hpm : ((a1, k1, us), (a2, k2, vs)) ∈ PS := HI.out.1.sub _ (by simp)
      have hsl : st'.length ≤ 1048577 := by
        have h1 := mu_len (st' ++ [((a1, k1, us), (a2, k2, vs))]) fun q hq => (HI.out.1.len q (HI.out.1.sub q hq)).2
        have h2 := HI.out.2.2.1
        have h3 := HTL.out
        simp at h1
        omega
      obtain ⟨hpl, hpp⟩ := HI.out.1.len _ hpm
      dsimp only at hpl hpp
      have HRP : Hid (tySh.slice.rep W0 (fun b => b < n + 5 ∧ b ≠ n + 2 ∧ Plain W0 b) [.slice a1 us.length k1] us ∧ tySh.slice.rep W0 (fun b => b < n + 5 ∧ b ≠ n + 2 ∧ Plain W0 b) [.slice a2 vs.length k2] vs) := (pr_open (HI.out.1.rep _ hpm)).2
      have hmx : (us.length : Int) ≤ 9223372036854775807 := by
        obtain ⟨a, c, css, e, h1, h2, -⟩ := HRP.out.1
        unfold maxLen at h2
        omega
      have HPOP : Hid (SInv K 36 W0 (n + 2) (n + 5) T T' wr PS st' (.slice (some ⟨g, 0, none⟩) st'.length cap)) := HI.out.1.pop
      have HJ : Hid (∀ q ∈ PS, q ∈ st' ∨ q = ((a1, k1, us), (a2, k2, vs)) ∨ Done PS q) := fun q hq => by
        rcases HI.out.2.1 q hq with h | h
        · rcases List.mem_append.1 h with h | h
          · exact .inl h
          · simp only [List.mem_singleton] at h; exact .inr (.inl h)
        · exact .inr (.inr h)
      have HMU : Hid (gk = mu st' + (allS us).length ∧ gk ≤ 1048577 ∧ gk ≤ (allT T).length) := by
        refine ⟨by rw [hk, mu_snoc], ?_, ?_⟩
        · have h2 := HI.out.2.2.1
          have h3 := HTL.out
          omega
        · have h2 := HI.out.2.2.1
          omega
      have HBB : Hid (Below n w wr) := HI.out.2.2.2
      have HPL : Hid (us.length = vs.length ∧ 0 < us.length) := ⟨hpl, hpp⟩
      have HPM : Hid (((a1, k1, us), (a2, k2, vs)) ∈ PS) := hpm
      have HGZ : Hid (n + 5 ≤ g ∧ g < wr.heap.size) := ⟨hgb, hgz⟩
      clear hk HI hpm hpl hpp hgb
      go_wp2
      clear c0 c1
      rename World => wo
      go_loopw [6, 36] (fun v6 v36 wi => ∃ (PS st : List PrD) (i : Nat), i ≤ us.length ∧ v36 = .int .i64 i ∧ Hid (SInv K 36 W0 (n + 2) (n + 5) T T' wi PS st v6 ∧ ((a1, k1, us), (a2, k2, vs)) ∈ PS ∧ (∀ q ∈ PS, q ∈ st ∨ q = ((a1, k1, us), (a2, k2, vs)) ∨ Done PS q) ∧ (∀ j (h : j < us.length) (h' : j < vs.length), j < i → One PS us[j] vs[j]) ∧ mu st + (allS (us.drop i)).length + i ≤ gk ∧ Below n w wi ∧ wo.heap.size < wi.heap.size ∧ v6.ownBlock ≠ some wo.heap.size ∧ wi.heap[wo.heap.size]? = some (.cells #[.slice a1 us.length k1, .slice a2 vs.length k2] 36))) (fun _ v36 _ => us.length - (intOf v36).toNat)
      case atStart =>
        refine ⟨PS, st', 0, Nat.zero_le _, rfl, HPOP.out.on (by omega) ((Below.refl _ _).alloc (Nat.le_refl _) _), HPM.out, HJ.out, fun j _ _ hj => absurd hj (Nat.not_lt_zero _), ?_, HBB.out.alloc ?_ _, by simp, ?_, alloc_top _ _⟩
        · rw [List.drop_zero, HMU.out.1]; omega
        · have := HGZ.out; omega
        · have := HGZ.out.2
          simp [Value.ownBlock]; omega
      case round =>
        obtain ⟨PS, st, i, hi, rfl, HR⟩ := hrel
        have d0 : wr.cell? ⟨wo.heap.size, 0, none⟩ = some (.slice a1 us.length k1) := by simp [World.cell?, HR.out.2.2.2.2.2.2.2.2]
        have d1 : wr.cell? ⟨wo.heap.size, 1, none⟩ = some (.slice a2 vs.length k2) := by simp [World.cell?, HR.out.2.2.2.2.2.2.2.2]
        have hwo : wo.heap.size < wr.heap.size := HR.out.2.2.2.2.2.2.1
        by_cases hlt : i < us.length
        · have hlt' : i < vs.length := by rw [← HPL.out.1]; exact hlt
          obtain ⟨a, c, css, e, -, -, hrow, hk⟩ := tys_open HRP.out.1
          cases e
          obtain ⟨a', c', css', e, -, -, hrow', hk'⟩ := tys_open HRP.out.2
          cases e
          obtain ⟨b, o, rfl, hS, hc⟩ := hrow i hlt
          have hrep := hk i hlt
          obtain ⟨b', o', rfl, hS', hc'⟩ := hrow' i hlt'
          have hrep' := hk' i hlt'
          obtain ⟨x0, x1, x2, ks, ak, ck, hT, hcs, f0, f1, f2, fk⟩ := ty_open hrep
          obtain ⟨y0, y1, y2, js, aj, cj, hT', hcs', g0, g1, g2, gk'⟩ := ty_open hrep'
          rw [hcs] at hc
          rw [hcs'] at hc'
          have low : ∀ q, q < n + 5 → q ≠ n + 2 → wr.heap[q]? = W0.heap[q]? := HR.out.1.low
          have e0 : wr.cell? ⟨b, o + i * 4, none⟩ = some (.int .i64 x0) := (World.cell?_of_block (w := W0) (a := ⟨b, o + i * 4, none⟩) (low b hS.1 hS.2.1)).trans (hc 0 _ rfl)
          have e1 : wr.cell? ⟨b, o + i * 4 + 1, none⟩ = some (.int .i64 x1) := (World.cell?_of_block (w := W0) (a := ⟨b, o + i * 4 + 1, none⟩) (low b hS.1 hS.2.1)).trans (hc 1 _ rfl)
          have e2 : wr.cell? ⟨b, o + i * 4 + 2, none⟩ = some (.string x2) := (World.cell?_of_block (w := W0) (a := ⟨b, o + i * 4 + 2, none⟩) (low b hS.1 hS.2.1)).trans (hc 2 _ rfl)
          have e3 : wr.cell? ⟨b, o + i * 4 + 3, none⟩ = some (.slice ak ks.length ck) := (World.cell?_of_block (w := W0) (a := ⟨b, o + i * 4 + 3, none⟩) (low b hS.1 hS.2.1)).trans (hc 3 _ rfl)
          have e0' : wr.cell? ⟨b', o' + i * 4, none⟩ = some (.int .i64 y0) := (World.cell?_of_block (w := W0) (a := ⟨b', o' + i * 4, none⟩) (low b' hS'.1 hS'.2.1)).trans (hc' 0 _ rfl)
          have e1' : wr.cell? ⟨b', o' + i * 4 + 1, none⟩ = some (.int .i64 y1) := (World.cell?_of_block (w := W0) (a := ⟨b', o' + i * 4 + 1, none⟩) (low b' hS'.1 hS'.2.1)).trans (hc' 1 _ rfl)
          have e2' : wr.cell? ⟨b', o' + i * 4 + 2, none⟩ = some (.string y2) := (World.cell?_of_block (w := W0) (a := ⟨b', o' + i * 4 + 2, none⟩) (low b' hS'.1 hS'.2.1)).trans (hc' 2 _ rfl)
          have e3' : wr.cell? ⟨b', o' + i * 4 + 3, none⟩ = some (.slice aj js.length cj) := (World.cell?_of_block (w := W0) (a := ⟨b', o' + i * 4 + 3, none⟩) (low b' hS'.1 hS'.2.1)).trans (hc' 3 _ rfl)
          have hkm : ks.length ≤ maxLen := by
            obtain ⟨a, c, css, e, h1, h2, -⟩ := fk
            omega
          have hbw : b < wr.heap.size := Nat.lt_of_lt_of_le hS.1 HR.out.1.size
          have hbw' : b' < wr.heap.size := Nat.lt_of_lt_of_le hS'.1 HR.out.1.size
          have FK : Hid _ := fk
          have GK : Hid _ := gk'
          have HTT : Hid (us[i] = .mk (x0, x1, x2) ks ∧ vs[i] = .mk (y0, y1, y2) js) := ⟨hT, hT'⟩
          have hkm2 : (ks.length : Int) ≤ 9223372036854775807 := by unfold maxLen at hkm; omega
          have BA : Hid (Below wr.heap.size wr ((wr.alloc (.cells #[.int .i64 x0, .int .i64 x1, .string x2, .slice ak ks.length ck] 29)).alloc (.cells #[.int .i64 y0, .int .i64 y1, .string y2, .slice aj js.length cj] 29))) := ((Below.refl _ _).alloc (Nat.le_refl _) _).alloc (by simp) _
          have Y1 : Hid (((wr.alloc (.cells #[.int .i64 x0, .int .i64 x1, .string x2, .slice ak ks.length ck] 29)).alloc (.cells #[.int .i64 y0, .int .i64 y1, .string y2, .slice aj js.length cj] 29)).heap[wr.heap.size]? = some (.cells #[.int .i64 x0, .int .i64 x1, .string x2, .slice ak ks.length ck] 29)) := by
            show _ = _
            rw [Below.heap_alloc _ _ _ (by simp)]; exact alloc_top _ _
          have Y2 : Hid (((wr.alloc (.cells #[.int .i64 x0, .int .i64 x1, .string x2, .slice ak ks.length ck] 29)).alloc (.cells #[.int .i64 y0, .int .i64 y1, .string y2, .slice aj js.length cj] 29)).heap[wr.heap.size + 1]? = some (.cells #[.int .i64 y0, .int .i64 y1, .string y2, .slice aj js.length cj] 29)) := by
            show _ = _
            have := alloc_top (wr.alloc (.cells #[.int .i64 x0, .int .i64 x1, .string x2, .slice ak ks.length ck] 29)) (.cells #[.int .i64 y0, .int .i64 y1, .string y2, .slice aj js.length cj] 29)
            simpa using this
          have Y3 : Hid (((wr.alloc (.cells #[.int .i64 x0, .int .i64 x1, .string x2, .slice ak ks.length ck] 29)).alloc (.cells #[.int .i64 y0, .int .i64 y1, .string y2, .slice aj js.length cj] 29)).heap.size = wr.heap.size + 2) := by show _ = _; simp
          clear hrow hk hrow' hk' hrep hrep' hcs hcs' hc hc' low fk gk' hT hT' f0 f1 f2 g0 g1 g2 hS hS' hkm
          by_cases hal : (x0, x1, x2) = (y0, y1, y2) ∧ ks.length = js.length
          case neg =>
            have Q : Hid (sameB T T' = false) := sameB_false fun e => by
              have h1 := HR.out.1.same e _ HR.out.2.1
              dsimp only at h1
              subst h1
              have h2 := HTT.out.1.symm.trans HTT.out.2
              cases h2
              exact hal ⟨rfl, rfl⟩
            have hcall := alone_no x0 x1 y0 y1 x2 y2 ak aj ks.length js.length ck cj ((wr.alloc (.cells #[.int .i64 x0, .int .i64 x1, .string x2, .slice ak ks.length ck] 29)).alloc (.cells #[.int .i64 y0, .int .i64 y1, .string y2, .slice aj js.length cj] 29)) hkm2 hal
            clear hal
            go_wp2_with fail
            refine hcall.mono ?_
            rintro e w1 ⟨rfl, hb⟩
            have B1 : Hid (Below n w w1) := HR.out.2.2.2.2.2.1.trans ((BA.out.trans (hb.mono (by rw [Y3.out]; omega))).mono (by have := HR.out.1.size; omega))
            clear hcall hb d0 d1 e0 e1 e2 e3 e0' e1' e2' e3'
            go_wp2
            go_ret
            exact ⟨ret_b Q.out.symm, by rw [← HN.out]; exact B1.out⟩
          obtain ⟨hxy, hkj⟩ := hal
          simp only [Prod.mk.injEq] at hxy
          obtain ⟨rfl, rfl, rfl⟩ := hxy
          have hcall := alone_yes x0 x1 x2 ak aj ks.length ck cj ((wr.alloc (.cells #[.int .i64 x0, .int .i64 x1, .string x2, .slice ak ks.length ck] 29)).alloc (.cells #[.int .i64 x0, .int .i64 x1, .string x2, .slice aj ks.length cj] 29)) hkm2
          have HKJ : Hid (ks.length = js.length) := hkj
          rw [← hkj] at e3' BA Y1 Y2 Y3 GK
          clear hkj
          go_wp2_with fail
          refine hcall.mono ?_
          rintro e w1 ⟨rfl, hb⟩
          have I1 : Hid (SInv K 36 W0 (n + 2) (n + 5) T T' w1 PS st u6) := HR.out.1.on (by omega) (BA.out.trans (hb.mono (by rw [Y3.out]; omega)))
          have B1 : Hid (Below n w w1) := HR.out.2.2.2.2.2.1.trans ((BA.out.trans (hb.mono (by rw [Y3.out]; omega))).mono (by have := HR.out.1.size; omega))
          have X1 : Hid (w1.heap[wr.heap.size]? = some (.cells #[.int .i64 x0, .int .i64 x1, .string x2, .slice ak ks.length ck] 29)) := (hb.block _ (by rw [Y3.out]; omega)).trans Y1.out
          have X2 : Hid (w1.heap[wr.heap.size + 1]? = some (.cells #[.int .i64 x0, .int .i64 x1, .string x2, .slice aj ks.length cj] 29)) := (hb.block _ (by rw [Y3.out]; omega)).trans Y2.out
          have X3 : Hid (w1.heap[wo.heap.size]? = some (.cells #[.slice (some ⟨b, o, none⟩) us.length k1, .slice (some ⟨b', o', none⟩) vs.length k2] 36)) := ((BA.out.trans (hb.mono (by rw [Y3.out]; omega))).block _ HR.out.2.2.2.2.2.2.1).trans HR.out.2.2.2.2.2.2.2.2
          have Z1 : Hid (wr.heap.size + 2 ≤ w1.heap.size) := by have := hb.size; rw [Y3.out] at this; exact this
          clear hcall hb d0 d1 e0 e1 e2 e3 e0' e1' e2' e3' BA Y1 Y2 Y3
          have hone : ∀ PS', (∀ q ∈ PS, q ∈ PS') → Cov PS' us[i] vs[i] → ∀ j (h : j < us.length) (h' : j < vs.length), j < i + 1 → One PS' us[j] vs[j] := fun PS' hsub hcov j h1 h2 hj => by
            by_cases hji : j = i
            · subst hji
              refine ⟨by rw [HTT.out.1, HTT.out.2]; rfl, by rw [HTT.out.1, HTT.out.2]; exact HKJ.out, hcov⟩
            · exact (HR.out.2.2.2.1 j h1 h2 (by omega)).more hsub
          have HONE : Hid (∀ PS', (∀ q ∈ PS, q ∈ PS') → Cov PS' us[i] vs[i] → ∀ j (h : j < us.length) (h' : j < vs.length), j < i + 1 → One PS' us[j] vs[j]) := hone
          have HDR : Hid ((allS (us.drop i)).length = (allS ks).length + 1 + (allS (us.drop (i + 1))).length) := by
            have := allS_drop hlt
            rw [HTT.out.1] at this
            exact this
          clear hone
          have d10 : w1.cell? ⟨wr.heap.size, 3, none⟩ = some (.slice ak ks.length ck) := by simp [World.cell?, X1.out]
          have d11 : w1.cell? ⟨wr.heap.size + 1, 3, none⟩ = some (.slice aj ks.length cj) := by simp [World.cell?, X2.out]
          by_cases hk0 : ks.length = 0
          · have hks : ks = [] := List.eq_nil_of_length_eq_zero hk0
            have hki : (ks.length : Int) = 0 := by omega
            rw [hk0] at d10 d11
            go_wp2
            go_round
            case rel =>
              refine ⟨PS, st, i + 1, by omega, by go_num, I1.out, HR.out.2.1, HR.out.2.2.1, HONE.out PS (fun _ h => h) (.inl (by rw [HTT.out.1]; exact hks)), ?_, B1.out, ?_, HR.out.2.2.2.2.2.2.2.1, X3.out⟩
              · have h1 := HR.out.2.2.2.2.1
                have h2 := HDR.out
                omega
              · have h1 := HR.out.2.2.2.2.2.2.1
                have h2 := Z1.out
                omega
            case measure => simp [intOf]; omega
          · have hkp : 0 < ks.length := by omega
            have hjp : 0 < js.length := by rw [← HKJ.out]; exact hkp
            have hki : ¬ (ks.length : Int) = 0 := by omega
            obtain ⟨q1, q2, csk, e, hkc, hkm, hrk, -⟩ := tys_open FK.out
            cases e
            obtain ⟨bk, ok, rfl, hSk, -⟩ := hrk 0 hkp
            have GK2 := GK.out
            rw [HKJ.out] at GK2
            obtain ⟨q1', q2', csj, e, hjc, hjm, hrj, -⟩ := tys_open GK2
            cases e
            obtain ⟨bj, oj, rfl, hSj, -⟩ := hrj 0 hjp
            have SK : Hid (Plain w1 bk ∧ Plain w1 bj) := ⟨hSk.2.2.on (I1.out.low bk hSk.1 hSk.2.1), hSj.2.2.on (I1.out.low bj hSj.1 hSj.2.1)⟩
            clear hrk hrj GK2 hSk hSj hjp hkc hjc hkm hjm
            have z1 : wr.heap.size < w1.heap.size := by have := Z1.out; omega
            have z2 : wr.heap.size + 1 < w1.heap.size := by have := Z1.out; omega
            go_wp2
            go_region
            obtain ⟨X, hX⟩ : ∃ X, X = (w1.alloc (.cells #[.pointer (some ⟨bk, ok, none⟩), .pointer (some ⟨bj, oj, none⟩)] 40)).drew := ⟨_, rfl⟩
            have BX : Below w1.heap.size w1 X := by rw [hX]; exact ((Below.refl _ _).alloc (Nat.le_refl _) _).drew
            have SX : X.heap.size = w1.heap.size + 1 := by rw [hX]; show (w1.alloc _).heap.size = _; simp
            have CX : X.heap[w1.heap.size]? = some (.cells #[.pointer (some ⟨bk, ok, none⟩), .pointer (some ⟨bj, oj, none⟩)] 40) := by rw [hX]; exact alloc_top _ _
            rw [← hX]
            have I2 : Hid (SInv K 36 W0 (n + 2) (n + 5) T T' X.drew PS st u6) := I1.out.on (by omega) BX.drew
            have B2 : Hid (Below n w X.drew) := B1.out.trans (BX.drew.mono (by have := I1.out.size; omega))
            have X3' : Hid (X.drew.heap[wo.heap.size]? = some (.cells #[.slice (some ⟨b, o, none⟩) us.length k1, .slice (some ⟨b', o', none⟩) vs.length k2] 36)) := (BX.drew.block _ (by omega)).trans X3.out
            have SZ2 : Hid (X.drew.heap.size = w1.heap.size + 1) := SX
            have f10 : X.cell? ⟨wr.heap.size, 3, none⟩ = some (.slice (some ⟨bk, ok, none⟩) ks.length ck) := (BX.cell (p := ⟨wr.heap.size, 3, none⟩) z1).trans d10
            have f11 : X.cell? ⟨wr.heap.size + 1, 3, none⟩ = some (.slice (some ⟨bj, oj, none⟩) ks.length cj) := (BX.cell (p := ⟨wr.heap.size + 1, 3, none⟩) z2).trans d11
            have f12 : X.cell? ⟨w1.heap.size, 0, none⟩ = some (.pointer (some ⟨bk, ok, none⟩)) := by simp [World.cell?, CX]
            have f13 : X.cell? ⟨w1.heap.size, 1, none⟩ = some (.pointer (some ⟨bj, oj, none⟩)) := by simp [World.cell?, CX]
            have z3 : wr.heap.size < X.heap.size := by omega
            have z4 : wr.heap.size + 1 < X.heap.size := by omega
            have PK : Hid (Plain X.drew bk ∧ Plain X.drew bj) := ⟨SK.out.1.on (BX.drew.block _ (by obtain ⟨_, _, hh⟩ := SK.out.1; exact (Array.getElem?_eq_some_iff.1 hh).1)), SK.out.2.on (BX.drew.block _ (by obtain ⟨_, _, hh⟩ := SK.out.2; exact (Array.getElem?_eq_some_iff.1 hh).1))⟩
            clear hX BX SX CX d10 d11 I1 B1 X1 X2 X3
            obtain ⟨m, hmap, hmet⟩ := I2.out.map
            have hokm : ∀ e ∈ m, K.ok X.drew e.1 := fun e he => by
              obtain ⟨q, hq, e1, e2, -⟩ := hmet e he
              exact (HK.out.2 _ _).2 (I2.out.plain hq e1 e2)
            have hokk : K.ok X.drew (⟨bk, ok, none⟩, ⟨bj, oj, none⟩) := (HK.out.2 _ _).2 PK.out
            obtain ⟨lv, hlook0, hlv⟩ := hmap.look (t := 34) Try.underlying34 (Try.zeroValue3 X.drew) hokk hokm
            obtain ⟨L, rfl, hL⟩ : ∃ L : Int, lv = .int .i64 L ∧ (L = 0 ∨ ((⟨bk, ok, none⟩, ⟨bj, oj, none⟩), .int .i64 L) ∈ m) := by
              rcases hlv with rfl | hlv
              · exact ⟨0, rfl, .inl rfl⟩
              · obtain ⟨q, -, -, -, e3⟩ := hmet _ hlv
                exact ⟨_, e3, .inr (by rw [← e3]; exact hlv)⟩
            obtain ⟨w3, m3, hst0, hmap3, hm3, hg3⟩ := hmap.store (t := 34) Try.underlying34 hokk hokm (.int .i64 (ks.length : Int))
            rw [HK.out.1] at hlook0 hst0
            have hlook : (Instr.lookup 34 (.map (some (n + 1 + 1))) (.agg #[.pointer (some ⟨bk, ok, none⟩), .pointer (some ⟨bj, oj, none⟩)]) false).run Try.prog X.drew = .ok (.int .i64 L) X.drew := hlook0
            have hst3 : (Instr.mapUpdate 34 (.map (some (n + 1 + 1))) (.agg #[.pointer (some ⟨bk, ok, none⟩), .pointer (some ⟨bj, oj, none⟩)]) (.int .i64 (ks.length : Int))).run Try.prog X.drew = .ok () w3 := hst0
            have HLL : Hid (L = 0 ∨ ((⟨bk, ok, none⟩, ⟨bj, oj, none⟩), .int .i64 L) ∈ m) := hL
            have HME : Hid (∀ e ∈ m, ∃ p ∈ PS, p.1.1 = some e.1.1 ∧ p.2.1 = some e.1.2 ∧ e.2 = .int .i64 p.1.2.2.length) := hmet
            have HM3 : Hid (KMap K w3 (n + 2) m3 ∧ (∀ e ∈ m3, e ∈ m ∨ e = ((⟨bk, ok, none⟩, ⟨bj, oj, none⟩), .int .i64 (ks.length : Int))) ∧ X.drew.grownBy w3 (some (n + 2))) := ⟨hmap3, hm3, hg3⟩
            clear hlook0 hst0 hlv hL hmet hokm hokk hmap hmap3 hm3 hg3
            by_cases hLk : L < (ks.length : Int)
            case neg =>
              clear hst3
              go_wp2
              go_region
              go_wp2
              go_round
              case rel =>
                refine ⟨PS, st, i + 1, by omega, by go_num, I2.out, HR.out.2.1, HR.out.2.2.1, HONE.out PS (fun _ h => h) ?_, ?_, B2.out, ?_, HR.out.2.2.2.2.2.2.2.1, X3'.out⟩
                · have hm := HLL.out.resolve_left (by omega)
                  refine I2.out.cov HME.out hm (c1 := ck) (c2 := cj) ?_ ?_ ?_ ?_
                  · rw [HTT.out.1]; exact FK.out
                  · rw [HTT.out.2]; have := GK.out; rw [HKJ.out] at this; exact this
                  · rw [HTT.out.1, HTT.out.2]; exact HKJ.out
                  · rw [HTT.out.1]; show (ks.length : Int) ≤ L; omega
                · have h1 := HR.out.2.2.2.2.1
                  have h2 := HDR.out
                  omega
                · rw [SZ2.out]; omega
              case measure => simp [intOf]; omega
            have I3 : Hid (SInv K 36 W0 (n + 2) (n + 5) T T' w3 (PS ++ [((some ⟨bk, ok, none⟩, ck, ks), (some ⟨bj, oj, none⟩, cj, js))]) st u6) := by
              refine I2.out.meet (by omega) ?_ ⟨HKJ.out, hkp⟩ ?_ rfl rfl HME.out HM3.out.1 HM3.out.2.1 HM3.out.2.2
              · refine pr_shut (p := ((some ⟨bk, ok, none⟩, ck, ks), (some ⟨bj, oj, none⟩, cj, js))) FK.out ?_
                have := GK.out
                rw [HKJ.out] at this
                exact this
              · intro e
                have h1 := I2.out.same e _ HR.out.2.1
                dsimp only at h1
                subst h1
                have h2 := HTT.out.1.symm.trans HTT.out.2
                cases h2
                rfl
            have k3 : ∀ q, q < X.drew.heap.size → q ≠ n + 2 → w3.heap[q]? = X.drew.heap[q]? := fun q h1 h2 => HM3.out.2.2.block q h1 fun e => h2 (Option.some.inj e)
            have hn5 : n + 5 ≤ wo.heap.size := by have h1 := HGZ.out.1; omega
            have hzz : n + 5 ≤ wr.heap.size := by omega
            have s3 : wr.heap.size + 1 < w3.heap.size := by have := HM3.out.2.2.size; rw [SZ2.out] at this; omega
            have g10 : w3.cell? ⟨wr.heap.size, 3, none⟩ = some (.slice (some ⟨bk, ok, none⟩) ks.length ck) := (World.cell?_of_block (w := X.drew) (a := ⟨wr.heap.size, 3, none⟩) (k3 _ (by rw [SZ2.out]; show wr.heap.size < _; omega) (by show wr.heap.size ≠ _; omega))).trans f10
            have g11 : w3.cell? ⟨wr.heap.size + 1, 3, none⟩ = some (.slice (some ⟨bj, oj, none⟩) ks.length cj) := (World.cell?_of_block (w := X.drew) (a := ⟨wr.heap.size + 1, 3, none⟩) (k3 _ (by rw [SZ2.out]; show wr.heap.size + 1 < _; omega) (by show wr.heap.size + 1 ≠ _; omega))).trans f11
            have X4 : Hid (w3.heap[wo.heap.size]? = some (.cells #[.slice (some ⟨b, o, none⟩) us.length k1, .slice (some ⟨b', o', none⟩) vs.length k2] 36)) := (k3 _ (by rw [SZ2.out]; omega) (by omega)).trans X3'.out
            have B3 : Hid (Below n w w3) := B2.out.grown HM3.out.2.2 (by rw [SZ2.out]; omega) (fun q e => by cases e; omega)
            clear k3 HM3 HLL
            obtain ⟨Y, hY⟩ : ∃ Y, Y = w3.alloc (.cells #[.slice (some ⟨bk, ok, none⟩) ks.length ck, .slice (some ⟨bj, oj, none⟩) ks.length cj] 36) := ⟨_, rfl⟩
            have BY : Below w3.heap.size w3 Y := by rw [hY]; exact (Below.refl _ _).alloc (Nat.le_refl _) _
            have I4 : Hid (SInv K 36 W0 (n + 2) (n + 5) T T' Y (PS ++ [((some ⟨bk, ok, none⟩, ck, ks), (some ⟨bj, oj, none⟩, cj, js))]) st u6) := I3.out.on (by omega) BY
            obtain ⟨cs4, hrow4, hcr4⟩ := I4.out.row
            have HCR : Hid _ := hcr4
            have HROW4 : Hid (Y.ownsRow (n + 5) 36 2 u6 st.length (flat cs4 st.length)) := hrow4
            have hstl : st.length ≤ 1048577 := by
              have h1 := mu_len st fun q hq => (I2.out.len q (I2.out.sub q hq)).2
              have h2 := HR.out.2.2.2.2.1
              have h3 := HMU.out.2.1
              omega
            have hnews := cells_new w3 [.slice (some ⟨bk, ok, none⟩) ks.length ck, .slice (some ⟨bj, oj, none⟩) ks.length cj] 36 _ rfl
            rw [show (#[.slice (some ⟨bk, ok, none⟩) ks.length ck, .slice (some ⟨bj, oj, none⟩) ks.length cj] : Array Value) = [.slice (some ⟨bk, ok, none⟩) ks.length ck, .slice (some ⟨bj, oj, none⟩) ks.length cj].toArray from rfl] at hY
            rw [← hY] at hnews
            have HNEW : Hid _ := hnews
            have SY : Hid (Y.heap.size = w3.heap.size + 1) := by show _ = _; rw [hY]; simp
            have HYY : Hid (Y = w3.alloc (.cells #[.slice (some ⟨bk, ok, none⟩) ks.length ck, .slice (some ⟨bj, oj, none⟩) ks.length cj] 36)) := hY
            have BYY : Hid (Below w3.heap.size w3 Y) := BY
            clear hnews hrow4 hcr4 hY BY
            go_wp2
            go_region
            go_wp2_with (first
              | (at_builtin
                 rw [← HYY.out]
                 refine wpList_append_own_at _ rfl _ _ 37 rfl (n + 5) 36 ti _ 2 48 Try.underlying37 TI.out.1 TI.out.2.1 TI.out.2.2.1 TI.out.2.2.2 rfl (by decide) u6 st.length _ rfl HROW4.out ⟨w3.heap.size, 0, none⟩ 1 1 _ rfl rfl HNEW.out (by simp [Value.oneCell']) (by unfold maxLen; omega) (by omega) I4.out.size ?_
                 intro v' w5 hown5 hgrow5 _ hat5)
              | fail)
            have GR5 : Hid (Y.grownBy w5 u6.ownBlock) := hgrow5
            have hwo5 : wo.heap.size < Y.heap.size := by rw [SY.out]; omega
            have hne5 := HR.out.2.2.2.2.2.2.2.1
            refine ⟨⟨PS ++ [((some ⟨bk, ok, none⟩, ck, ks), (some ⟨bj, oj, none⟩, cj, js))], st ++ [((some ⟨bk, ok, none⟩, ck, ks), (some ⟨bj, oj, none⟩, cj, js))], i + 1, by omega, by go_num, ?_, by simp [HR.out.2.1], ?_, ?_, ?_, ?_, ?_, ?_, ?_⟩, by simp [intOf]; omega⟩
            · refine I4.out.push (by omega) (by simp) HROW4.out HCR.out ?_ hgrow5
              show w5.ownsRow (n + 5) 36 2 v' (st.length + 1) (flat cs4 st.length ++ [.slice (some ⟨bk, ok, none⟩) ks.length ck, .slice (some ⟨bj, oj, none⟩) js.length cj])
              rw [← HKJ.out]
              exact hown5
            · intro q hq
              rcases List.mem_append.1 hq with hq | hq
              · rcases HR.out.2.2.1 q hq with h | h | h
                · exact .inl (by simp [h])
                · exact .inr (.inl h)
                · exact .inr (.inr (h.more fun x hx => by simp [hx]))
              · exact .inl (by simp at hq; simp [hq])
            · refine HONE.out _ (fun x hx => by simp [hx]) (.inr ⟨_, List.mem_append_right _ (List.mem_singleton.2 rfl), ?_, ?_⟩)
              · rw [HTT.out.1]; exact List.prefix_refl _
              · rw [HTT.out.2]; exact List.prefix_refl _
            · rw [mu_snoc]
              have h1 := HR.out.2.2.2.2.1
              have h2 := HDR.out
              dsimp only
              omega
            · refine (B3.out.trans (BYY.out.mono (by omega))).grown GR5.out (by rw [SY.out]; omega) fun q e => ?_
              have := (World.ownsRow.lt HROW4.out q e).1
              omega
            · exact Nat.lt_of_lt_of_le hwo5 GR5.out.size
            · rcases hat5 with h | h
              · rw [h]; exact hne5
              · rw [h]; intro e; have := Option.some.inj e; omega
            · rw [GR5.out.block _ hwo5 (fun e => hne5 e.symm), BYY.out.block _ (by omega)]
              exact X4.out
        · obtain rfl : i = us.length := by omega
          go_wp2
          go_roundg (mu st)
          case rel =>
            refine ⟨PS, st, rfl, HR.out.1, fun q hq => ?_, ?_, HR.out.2.2.2.2.2.1⟩
            · rcases HR.out.2.2.1 q hq with h | h | h
              · exact .inl h
              · subst h
                exact .inr fun j h1 h2 => HR.out.2.2.2.1 j h1 h2 h1
              · exact .inr h
            · have h1 := HR.out.2.2.2.2.1
              have h2 := HMU.out.2.2
              omega
          case measure =>
            have h1 := HR.out.2.2.2.2.1
            have h2 := HPL.out.2
            omega

end Go.Proofs.Ytfekbchmgnpkaab.ty

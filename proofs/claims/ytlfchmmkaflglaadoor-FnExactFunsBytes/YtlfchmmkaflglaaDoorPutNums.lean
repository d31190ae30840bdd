/-
  The program's putNums: numbers are written behind a row of bytes of the call's own.
-/
import Derived.Test.YtlfchmmkaflglaaDoorNumBytes
import Derived.Test.YtlfchmmkaflglaaDoorByteRows
import Derived.Test.YtlfchmmkaflglaaDoorRowSet
import Derived.Maps.AppendAt
import Derived.WalkSmall
namespace Go.Proofs.YtlfchmmkaflglaaDoor.byts
open Go Go.RowKit Go.Proofs.YtlfchmmkaflglaaDoor.rose Go.Proofs.YtlfchmmkaflglaaDoor Go.Proofs.YtlfchmmkaflglaaDoor.fun
set_option linter.unusedVariables false
set_option linter.unusedSimpArgs false

/-- What has been written so far; what was there is as it was, but the row. -/
structure NB (base : Nat) (w wr : World) (vb v : Value) (l : List Int) : Prop where
  row : BRow wr base v l
  grw : w.grownBy wr vb.ownBlock
  own : v.ownBlock = vb.ownBlock ∨ ∃ k, v.ownBlock = some k ∧ w.heap.size ≤ k
theorem NB.refl {base : Nat} {w : World} {v : Value} {l : List Int} (h : BRow w base v l) : NB base w w v v l := ⟨h, ⟨rfl, rfl, rfl, Nat.le_refl _, fun _ _ _ => rfl⟩, .inl rfl⟩
theorem NB.on {base : Nat} {w wr w1 : World} {vb v : Value} {l : List Int} (h : NB base w wr vb v l) (hb : Below wr.heap.size wr w1) : NB base w w1 vb v l :=
  ⟨h.row.keep hb, ⟨hb.os.trans h.grw.os, hb.tape.trans h.grw.tape, hb.output.trans h.grw.output, Nat.le_trans h.grw.size hb.size, fun k hk hn => (hb.block k (Nat.lt_of_lt_of_le hk h.grw.size)).trans (h.grw.block k hk hn)⟩, h.own⟩
theorem NB.app {base : Nat} {w w1 w4 : World} {vb v : Value} {a4 : Option Addr} {c4 : Nat} {l : List Int} {x : Int} (h : NB base w w1 vb v l) (o4 : w4.ownsRow base 5 1 (.slice a4 (l.length + 1) c4) (l.length + 1) (l.map (Value.int .u8) ++ [.int .u8 x])) (g4 : w1.grownBy w4 v.ownBlock) (e4 : (Value.slice a4 (l.length + 1) c4).ownBlock = v.ownBlock ∨ (Value.slice a4 (l.length + 1) c4).ownBlock = some w1.heap.size) (hx : InB8 x) :
    NB base w w4 vb (.slice a4 (l ++ [x]).length c4) (l ++ [x]) := by
  refine ⟨⟨?_, fun y hy => ?_⟩, ⟨g4.os.trans h.grw.os, g4.tape.trans h.grw.tape, g4.output.trans h.grw.output, Nat.le_trans h.grw.size g4.size, fun k hk hn => (g4.block k (Nat.lt_of_lt_of_le hk h.grw.size) fun e => ?_).trans (h.grw.block k hk hn)⟩, ?_⟩
  · rw [List.length_append, List.map_append]; exact o4
  · rcases List.mem_append.1 hy with hy | hy
    · exact h.row.2 y hy
    · simp only [List.mem_singleton] at hy; subst hy; exact hx
  · rcases h.own with q | ⟨z, q, hz⟩
    · exact hn (e.trans q)
    · rw [q] at e; simp only [Option.some.injEq] at e; omega
  · rw [List.length_append, List.length_singleton]
    rcases e4 with q | q
    · rcases h.own with q2 | ⟨z, q2, hz⟩
      · exact .inl (q.trans q2)
      · exact .inr ⟨z, q.trans q2, hz⟩
    · exact .inr ⟨_, q, h.grw.size⟩

set_option maxRecDepth 100000 in
set_option maxHeartbeats 8000000 in
theorem putNums_any (base g : Nat) (l : List Int) (xs : List Nat) (ab : Option Addr) (cb : Nat) (w : World) (hb : base ≤ w.heap.size) (hr : BRow w base (.slice ab l.length cb) l) (hg : g < w.heap.size) (hne : (Value.slice ab l.length cb).ownBlock ≠ some g) (hc : ∀ i (h : i < xs.length), w.cell? ⟨g, i, none⟩ = some (.int .i64 (xs[i] : Nat))) (hx : ∀ i (h : i < xs.length), xs[i] ≤ 2147483647) (hxl : xs.length ≤ 3) (hl : l.length ≤ 100000000) :
    Calls Tryd.prog 23 #[.slice ab l.length cb, .slice (some ⟨g, 0, none⟩) xs.length xs.length] w fun e w' => ∃ a' c', e = .returned (.slice a' (l ++ xs.flatMap vint).length c') ∧ NB base w w' (.slice ab l.length cb) (.slice a' (l ++ xs.flatMap vint).length c') (l ++ xs.flatMap vint) := by
  obtain ⟨ti, hti, hz0, hz1, hz2⟩ := byte_info
  have TI : Hid (Tryd.prog.info? 5 = some ti ∧ ti.zero = some (.int .u8 0) ∧ ti.size = 1 ∧ ti.bytes = 1) := ⟨hti, hz0, hz1, hz2⟩
  clear hti hz0 hz1 hz2
  have HC : Hid (∀ i (h : i < xs.length), w.cell? ⟨g, i, none⟩ = some (.int .i64 (xs[i] : Nat))) := hc
  have HX : Hid (∀ i (h : i < xs.length), xs[i] ≤ 2147483647) := hx
  have N0 : Hid (NB base w w (.slice ab l.length cb) (.slice ab l.length cb) l) := NB.refl hr
  have HG : Hid (∀ wr v m, NB base w wr (.slice ab l.length cb) v m → wr.heap[g]? = w.heap[g]?) := fun wr v m h => h.grw.block g hg fun e => hne e.symm
  obtain ⟨L, hL⟩ : ∃ L, L = l ++ xs.flatMap vint := ⟨_, rfl⟩
  rw [← hL]
  have HL : Hid (L = l ++ xs.flatMap vint) := hL
  clear hr hc hx hne hL
  go_enter Tryd.func23, Tryd.ntmps23
  go_wp2
  go_loopw [0, 9] (fun v0 v9 wr => ∃ (i : Nat) (m : List Int) (av : Option Addr) (cv : Nat), i ≤ xs.length ∧ v9 = .int .i64 i ∧ v0 = .slice av m.length cv ∧ m.length ≤ l.length + 5 * i ∧ Hid (NB base w wr (.slice ab l.length cb) (.slice av m.length cv) m ∧ m = l ++ (xs.take i).flatMap vint)) (fun _ v9 _ => xs.length - (intOf v9).toNat)
  case atStart => exact ⟨0, l, ab, cb, Nat.zero_le _, rfl, rfl, by omega, N0.out, by simp⟩
  case round =>
    obtain ⟨i, m, av, cv, hi, rfl, rfl, hml, HM⟩ := hrel
    by_cases hlt : i < xs.length
    · have e0 : wr.cell? ⟨g, i, none⟩ = some (.int .i64 (xs[i] : Nat)) := (World.cell?_of_block (a := ⟨g, i, none⟩) (HG.out _ _ _ HM.out.1)).trans (HC.out i hlt)
      have hx1 := HX.out i hlt
      have HXS : Hid ((xs.take (i + 1)).flatMap vint = (xs.take i).flatMap vint ++ vint xs[i]) := by show _ = _; rw [List.take_succ_eq_append_getElem hlt, List.flatMap_append]; simp
      generalize xs[i] = x at e0 hx1 HXS
      go_wp2
      clear e0
      go_loopw [0, 6] (fun v0 v6 wi => ∃ (k : Nat) (q : List Int) (au : Option Addr) (cu : Nat), k ≤ 2147483647 ∧ v6 = .int .i64 k ∧ v0 = .slice au q.length cu ∧ q.length ≤ m.length + 5 ∧ Hid (NB base w wi (.slice ab l.length cb) (.slice au q.length cu) q ∧ q ++ vint k = m ++ vint x)) (fun _ v6 _ => (intOf v6).toNat)
      case atStart => exact ⟨x, m, av, cv, hx1, rfl, rfl, by omega, HM.out.1, rfl⟩
      case round =>
        obtain ⟨k, q, au, cu, hk, rfl, rfl, hql, HQ⟩ := hrel
        have HZ : Hid (base ≤ wr.heap.size) := Nat.le_trans hb HQ.out.1.grw.size
        have RD : Hid (∀ X, (wr.alloc X).ownsRow base 5 1 (.slice au q.length cu) q.length (q.map (Value.int .u8))) := fun X => (HQ.out.1.row.keep ((Below.refl _ _).alloc (Nat.le_refl _) X)).1
        by_cases h7 : 128 ≤ k
        · have t1 : decide ((128 : Int) ≤ (k : Int)) = true := by simp; omega
          obtain ⟨r, hr⟩ : ∃ r : Nat, r = k % 128 := ⟨_, rfl⟩
          have hr1 : (k : Int) % 128 = (r : Int) := by omega
          have hr2 : r < 128 := by omega
          have hq1 : IntKind.i64.wrap (Int.tdiv (k : Int) 128) = ((k / 128 : Nat) : Int) := by rw [IntWalk.i64_quo _ _ (by omega)]; omega
          have HR : Hid (r = k % 128) := hr
          clear hr
          go_wp2_with (first
            | (at_builtin; refine wpList_append_own_at _ rfl (.tmp 15) (.tmp 20) 24 rfl base 5 ti _ 1 1 Tryd.underlying24 TI.out.1 TI.out.2.1 TI.out.2.2.1 TI.out.2.2.2 rfl (by decide) (.slice au q.length cu) _ _ rfl (RD.out _) ⟨wr.heap.size, 0, none⟩ 1 1 [.int .u8 ((r : Int) + 128)] rfl rfl (new_cell _ _ _) (by simp; rfl) (by unfold maxLen; omega) (by omega) (by have := HZ.out; simp; omega) ?_; intro v4 w4 o4 g4 n4 a4; obtain ⟨a5, c5, rfl⟩ := own_form o4))
          have NX : Hid (NB base w w4 (.slice ab l.length cb) (.slice a5 (q ++ [(r : Int) + 128]).length c5) (q ++ [(r : Int) + 128]) ∧ (q ++ [(r : Int) + 128]) ++ vint (k / 128) = m ++ vint x) := by
            refine ⟨(HQ.out.1.on ((Below.refl _ _).alloc (Nat.le_refl _) _)).app o4 g4 a4 ⟨by omega, by omega⟩, ?_⟩
            have h1 := HQ.out.2
            rw [vint_more (by omega)] at h1
            rw [List.append_assoc, ← h1, HR.out]
            simp
          have hqn : (q ++ [(r : Int) + 128]).length ≤ m.length + 5 := by
            have h2 := congrArg List.length NX.out.2
            have h3 := vint_pos (k / 128)
            have h4 := vint_len (n := x) (k := 5) (by omega) (by omega)
            simp only [List.length_append, List.length_singleton] at h2 ⊢
            omega
          clear o4 g4 n4 a4 HR
          go_round
          case rel => exact ⟨k / 128, q ++ [(r : Int) + 128], a5, c5, by omega, by go_num, by simp, hqn, NX⟩
          case measure => simp [intOf]; omega
        · have t1 : decide ((128 : Int) ≤ (k : Int)) = false := by simp; omega
          have hk7 : k ≤ 127 := by omega
          go_wp2_with (first
            | (at_builtin; refine wpList_append_own_at _ rfl (.tmp 24) (.tmp 27) 24 rfl base 5 ti _ 1 1 Tryd.underlying24 TI.out.1 TI.out.2.1 TI.out.2.2.1 TI.out.2.2.2 rfl (by decide) (.slice au q.length cu) _ _ rfl (RD.out _) ⟨wr.heap.size, 0, none⟩ 1 1 [.int .u8 (k : Int)] rfl rfl (new_cell _ _ _) (by simp; rfl) (by unfold maxLen; omega) (by omega) (by have := HZ.out; simp; omega) ?_; intro v4 w4 o4 g4 n4 a4; obtain ⟨a5, c5, rfl⟩ := own_form o4))
          have NX : Hid (NB base w w4 (.slice ab l.length cb) (.slice a5 (q ++ [(k : Int)]).length c5) (q ++ [(k : Int)]) ∧ q ++ [(k : Int)] = l ++ (xs.take (i + 1)).flatMap vint) := by
            refine ⟨(HQ.out.1.on ((Below.refl _ _).alloc (Nat.le_refl _) _)).app o4 g4 a4 ⟨by omega, by omega⟩, ?_⟩
            have h1 := HQ.out.2
            rw [vint_small hk7] at h1
            rw [h1, HXS.out, HM.out.2, List.append_assoc]
          have hqn : (q ++ [(k : Int)]).length ≤ l.length + 5 * (i + 1) := by
            have h1 := HQ.out.2
            rw [vint_small hk7] at h1
            rw [h1, List.length_append]
            have h4 := vint_len (n := x) (k := 5) (by omega) (by omega)
            omega
          clear o4 g4 n4 a4
          go_round
          case rel => exact ⟨i + 1, q ++ [(k : Int)], a5, c5, by omega, by go_num, by simp, hqn, NX⟩
          case measure => simp [intOf]; omega
    · obtain rfl : i = xs.length := by omega
      have HE : Hid (m = L) := by show _ = _; rw [HL.out, HM.out.2, List.take_length]
      go_wp2
      go_ret
      rw [← HE.out]
      exact ⟨av, cv, rfl, HM.out.1⟩

end Go.Proofs.YtlfchmmkaflglaaDoor.byts

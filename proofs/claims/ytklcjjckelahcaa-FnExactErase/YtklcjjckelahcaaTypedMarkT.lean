/-
  The law's marks in one Typed: its slices are marked, nothing else is turned.
-/
import Derived.Test.YtklcjjckelahcaaTypedMark
import Derived.Test.YtklcjjckelahcaaTyMark
namespace Go.Proofs.Ytklcjjckelahcaa.typed
open Go.RowKit Go.Proofs.Ytklcjjckelahcaa.rose Go.Proofs.Ytklcjjckelahcaa
set_option linter.unusedVariables false

/-- How many marks the slices of one take. -/
def cntT : TypedD → Nat
  | .mk (x0, x1, x2, x3, x4, x5, x6) x7 => ty.cntT x4 + (ty.cnts x5 + (x6.length + (cnts x7)))

set_option maxHeartbeats 2000000 in
theorem markT_any (T : TypedD) (cs : List Value) (w : World) (k : Int) (S : Nat → Prop) (hk1 : 1 ≤ k) (hk2 : k + (cntT T : Nat) ≤ 1152921504606846976) (hS : ∀ b, S b → b < w.heap.size) (h : typedSp.rep w S cs T) :
    Calls Try.prog 11 #[.agg cs.toArray, .int .i64 k] w fun e w' => e = .returned (.int .i64 (k + (cntT T : Nat))) ∧ Only S w w' := by
  obtain ⟨x0, x1, x2, x3, x4, u4_0, u4_1, u4_2, u4_3, x5, a5, c5, x6, a6, c6, x7, a7, c7, S4, S5, S6, S7, rfl, rfl, f0, f1, f2, f3, f4, f5, f6, f7, s4, s5, s6, s7, d4_5, d4_6, d4_7, d5_6, d5_7, d6_7⟩ := typedp_open h
  have HSB := typedSp.one h
  have ou4_0 : (u4_0).oneCell' = true := HSB _ (by simp)
  have ou4_1 : (u4_1).oneCell' = true := HSB _ (by simp)
  have ou4_2 : (u4_2).oneCell' = true := HSB _ (by simp)
  have ou4_3 : (u4_3).oneCell' = true := HSB _ (by simp)
  clear h HSB
  have HS : Hid (∀ b, S b → b < w.heap.size) := hS
  clear hS
  have hct : cntT (.mk (x0, x1, x2, x3, x4, x5, x6) x7) = ty.cntT x4 + (ty.cnts x5 + (x6.length + (cnts x7))) := rfl
  rw [hct] at hk2 ⊢
  clear hct
  have BA : Hid (Below w.heap.size w (w.alloc (.cells #[.int .i64 x0, .int .i64 x1, .string x2, .string x3, u4_0, u4_1, u4_2, u4_3, .slice a5 x5.length c5, .slice a6 x6.length c6, .slice a7 x7.length c7] 39))) := (Below.refl _ _).alloc (Nat.le_refl _) _
  have QS : Hid ((∀ b, S4 b → S b) ∧ (∀ b, S5 b → S b) ∧ (∀ b, S6 b → S b) ∧ (∀ b, S7 b → S b) ∧ (∀ b, S4 b → ¬ S5 b) ∧ (∀ b, S4 b → ¬ S6 b) ∧ (∀ b, S4 b → ¬ S7 b) ∧ (∀ b, S5 b → ¬ S6 b) ∧ (∀ b, S5 b → ¬ S7 b) ∧ (∀ b, S6 b → ¬ S7 b)) := ⟨s4, s5, s6, s7, d4_5, d4_6, d4_7, d5_6, d5_7, d6_7⟩
  have R0_4 : Hid (ty.tySp.rep w S4 [u4_0, u4_1, u4_2, u4_3] x4) := f4
  have R0_5 : Hid (ty.tySp.sslice.rep w S5 [.slice a5 x5.length c5] x5) := f5
  have R0_6 : Hid (Sh.int.sslice.rep w S6 [.slice a6 x6.length c6] x6) := f6
  have R0_7 : Hid (typedSp.sslice.rep w S7 [.slice a7 x7.length c7] x7) := f7
  clear f0 f1 f2 f3 f4 f5 f6 f7 s4 s5 s6 s7 d4_5 d4_6 d4_7 d5_6 d5_7 d6_7
  go_enter Try.func11, Try.ntmps11
  go_wp2_with fail
  refine (ty.markT2_any x4 _ _ (k) S4 (by omega) (by omega) (fun b hb => Nat.lt_of_lt_of_le (HS.out b (QS.out.1 b hb)) BA.out.size) (ty.tySp.on R0_4.out fun b hb => BA.out.block b (HS.out b (QS.out.1 b hb)))).mono ?_
  rintro e w1 ⟨rfl, ho, hr⟩
  have O1 : Hid (Only S (w.alloc (.cells #[.int .i64 x0, .int .i64 x1, .string x2, .string x3, u4_0, u4_1, u4_2, u4_3, .slice a5 x5.length c5, .slice a6 x6.length c6, .slice a7 x7.length c7] 39)) w1) := ho.mono fun b _ hb => QS.out.1 b hb
  have R1_5 : Hid (ty.tySp.sslice.rep w1 S5 [.slice a5 x5.length c5] x5) := ty.tySp.sslice.on R0_5.out fun b hb => (ho.block b (Nat.lt_of_lt_of_le (HS.out b (QS.out.2.1 b hb)) BA.out.size) ((fun q h1 h2 => QS.out.2.2.2.2.1 q h2 h1) b hb)).trans (BA.out.block b (HS.out b (QS.out.2.1 b hb)))
  have R1_6 : Hid (Sh.int.sslice.rep w1 S6 [.slice a6 x6.length c6] x6) := Sh.int.sslice.on R0_6.out fun b hb => (ho.block b (Nat.lt_of_lt_of_le (HS.out b (QS.out.2.2.1 b hb)) BA.out.size) ((fun q h1 h2 => QS.out.2.2.2.2.2.1 q h2 h1) b hb)).trans (BA.out.block b (HS.out b (QS.out.2.2.1 b hb)))
  have R1_7 : Hid (typedSp.sslice.rep w1 S7 [.slice a7 x7.length c7] x7) := typedSp.sslice.on R0_7.out fun b hb => (ho.block b (Nat.lt_of_lt_of_le (HS.out b (QS.out.2.2.2.1 b hb)) BA.out.size) ((fun q h1 h2 => QS.out.2.2.2.2.2.2.1 q h2 h1) b hb)).trans (BA.out.block b (HS.out b (QS.out.2.2.2.1 b hb)))
  have b1_8 : w1.cell? ⟨w.heap.size, 8, none⟩ = some (.slice a5 x5.length c5) := (cell_only ho (by simp) (fun hb => Nat.lt_irrefl _ (HS.out _ (QS.out.1 _ hb)))).trans (by simp)
  have b1_9 : w1.cell? ⟨w.heap.size, 9, none⟩ = some (.slice a6 x6.length c6) := (cell_only ho (by simp) (fun hb => Nat.lt_irrefl _ (HS.out _ (QS.out.1 _ hb)))).trans (by simp)
  have b1_10 : w1.cell? ⟨w.heap.size, 10, none⟩ = some (.slice a7 x7.length c7) := (cell_only ho (by simp) (fun hb => Nat.lt_irrefl _ (HS.out _ (QS.out.1 _ hb)))).trans (by simp)
  clear ho hr
  go_wp2_with fail
  refine (ty.markS_any x5 _ _ (k + (ty.cntT x4 : Nat)) S5 (by omega) (by omega) (fun b hb => Nat.lt_of_lt_of_le (HS.out b (QS.out.2.1 b hb)) (Nat.le_trans BA.out.size O1.out.size)) R1_5.out).mono ?_
  rintro e w2 ⟨rfl, hr, ho⟩
  have O2 : Hid (Only S (w.alloc (.cells #[.int .i64 x0, .int .i64 x1, .string x2, .string x3, u4_0, u4_1, u4_2, u4_3, .slice a5 x5.length c5, .slice a6 x6.length c6, .slice a7 x7.length c7] 39)) w2) := O1.out.trans (ho.mono fun b _ hb => QS.out.2.1 b hb)
  have R2_6 : Hid (Sh.int.sslice.rep w2 S6 [.slice a6 x6.length c6] x6) := Sh.int.sslice.on R1_6.out fun b hb => ho.block b (Nat.lt_of_lt_of_le (HS.out b (QS.out.2.2.1 b hb)) (Nat.le_trans BA.out.size O1.out.size)) ((fun q h1 h2 => QS.out.2.2.2.2.2.2.2.1 q h2 h1) b hb)
  have R2_7 : Hid (typedSp.sslice.rep w2 S7 [.slice a7 x7.length c7] x7) := typedSp.sslice.on R1_7.out fun b hb => ho.block b (Nat.lt_of_lt_of_le (HS.out b (QS.out.2.2.2.1 b hb)) (Nat.le_trans BA.out.size O1.out.size)) ((fun q h1 h2 => QS.out.2.2.2.2.2.2.2.2.1 q h2 h1) b hb)
  have b2_9 : w2.cell? ⟨w.heap.size, 9, none⟩ = some (.slice a6 x6.length c6) := (cell_only ho (Nat.lt_of_lt_of_le (by simp) O1.out.size) (fun hb => Nat.lt_irrefl _ (HS.out _ (QS.out.2.1 _ hb)))).trans b1_9
  have b2_10 : w2.cell? ⟨w.heap.size, 10, none⟩ = some (.slice a7 x7.length c7) := (cell_only ho (Nat.lt_of_lt_of_le (by simp) O1.out.size) (fun hb => Nat.lt_irrefl _ (HS.out _ (QS.out.2.1 _ hb)))).trans b1_10
  clear b1_8 b1_9 b1_10
  clear ho hr
  go_wp2_with fail
  refine (ints.mark_any x6 _ _ (k + (ty.cntT x4 : Nat) + (ty.cnts x5 : Nat)) S6 (by omega) (by omega) (fun b hb => Nat.lt_of_lt_of_le (HS.out b (QS.out.2.2.1 b hb)) (Nat.le_trans BA.out.size O2.out.size)) R2_6.out).mono ?_
  rintro e w3 ⟨rfl, hr, ho⟩
  have O3 : Hid (Only S (w.alloc (.cells #[.int .i64 x0, .int .i64 x1, .string x2, .string x3, u4_0, u4_1, u4_2, u4_3, .slice a5 x5.length c5, .slice a6 x6.length c6, .slice a7 x7.length c7] 39)) w3) := O2.out.trans (ho.mono fun b _ hb => QS.out.2.2.1 b hb)
  have R3_7 : Hid (typedSp.sslice.rep w3 S7 [.slice a7 x7.length c7] x7) := typedSp.sslice.on R2_7.out fun b hb => ho.block b (Nat.lt_of_lt_of_le (HS.out b (QS.out.2.2.2.1 b hb)) (Nat.le_trans BA.out.size O2.out.size)) ((fun q h1 h2 => QS.out.2.2.2.2.2.2.2.2.2 q h2 h1) b hb)
  have b3_10 : w3.cell? ⟨w.heap.size, 10, none⟩ = some (.slice a7 x7.length c7) := (cell_only ho (Nat.lt_of_lt_of_le (by simp) O2.out.size) (fun hb => Nat.lt_irrefl _ (HS.out _ (QS.out.2.2.1 _ hb)))).trans b2_10
  clear b2_9 b2_10
  clear ho hr
  go_wp2_with fail
  refine (markS_any x7 _ _ (k + (ty.cntT x4 : Nat) + (ty.cnts x5 : Nat) + (x6.length : Nat)) S7 (by omega) (by omega) (fun b hb => Nat.lt_of_lt_of_le (HS.out b (QS.out.2.2.2.1 b hb)) (Nat.le_trans BA.out.size O3.out.size)) R3_7.out).mono ?_
  rintro e w4 ⟨rfl, hr, ho⟩
  have O4 : Hid (Only S (w.alloc (.cells #[.int .i64 x0, .int .i64 x1, .string x2, .string x3, u4_0, u4_1, u4_2, u4_3, .slice a5 x5.length c5, .slice a6 x6.length c6, .slice a7 x7.length c7] 39)) w4) := O3.out.trans (ho.mono fun b _ hb => QS.out.2.2.2.1 b hb)
  clear b3_10
  clear ho hr
  have hx : k + (ty.cntT x4 : Nat) + (ty.cnts x5 : Nat) + (x6.length : Nat) + (cnts x7 : Nat) = k + ((ty.cntT x4 + (ty.cnts x5 + (x6.length + (cnts x7))) : Nat) : Int) := by omega
  rw [hx]
  clear hx
  go_wp2
  go_ret
  exact ⟨rfl, (Only.ofBelow BA.out).trans O4.out⟩

end Go.Proofs.Ytklcjjckelahcaa.typed

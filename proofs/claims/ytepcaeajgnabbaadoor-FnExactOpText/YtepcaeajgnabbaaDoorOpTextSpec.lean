/-
  The model's l13Names and OpText, at every Op; nothing that was there is turned.
-/
import Derived.Test.YtepcaeajgnabbaaDoorOpTextDefs
namespace Go.Proofs.YtepcaeajgnabbaaDoor.fun
open Go.RowKit Go.Proofs.YtepcaeajgnabbaaDoor
set_option linter.unusedVariables false
set_option linter.unusedSimpArgs false

/-- What is held may be more. -/
theorem wpAnyH_stronger {P : Program} {md : Region.Mode} {ops : Array Oper} {Q : Exit → Act → World → Prop} {S S' : World → Prop} (hS : ∀ w, S' w → S w) :
    ∀ {fuel : Nat} {listed : Array Bool} {a : Act} {w : World}, wpAnyH P md ops Q S' fuel listed a w → wpAnyH P md ops Q S fuel listed a w
  | 0, _, _, _, h => h
  | _ + 1, _, _, _, h => ⟨h.1, fun i hi => wpOp_mono (fun a' w' h' => ⟨hS _ h'.1, wpAnyH_stronger hS h'.2⟩) (h.2 i hi)⟩

set_option maxRecDepth 100000 in
set_option maxHeartbeats 2000000 in
theorem names_any (i : Nat) (hi : i < 22) (w : World) : Calls Tryd.prog 8 #[] w fun e w' => ∃ B, e = .returned (.slice (some ⟨B, 0, none⟩) 22 22) ∧ B < w'.heap.size ∧ w'.cell? ⟨B, i, none⟩ = some (.string (nameS i)) ∧ Below w.heap.size w w' := by
  go_enter Tryd.func8, Tryd.ntmps8
  go_wp2
  go_ret
  refine ⟨w.heap.size, rfl, by simp, ?_, (Below.refl _ _).alloc (Nat.le_refl _) _⟩
  have H : ∀ (ar : Array Value) (t : TypeId) (v : Value), ar[i]? = some v → (w.alloc (.cells ar t)).cell? ⟨w.heap.size, i, none⟩ = some v := fun ar t v h => (World.cell?_alloc_new w ar t i).trans h
  refine H _ _ _ ?_
  rcases (by omega : i = 0 ∨ i = 1 ∨ i = 2 ∨ i = 3 ∨ i = 4 ∨ i = 5 ∨ i = 6 ∨ i = 7 ∨ i = 8 ∨ i = 9 ∨ i = 10 ∨ i = 11 ∨ i = 12 ∨ i = 13 ∨ i = 14 ∨ i = 15 ∨ i = 16 ∨ i = 17 ∨ i = 18 ∨ i = 19 ∨ i = 20 ∨ i = 21) with rfl | rfl | rfl | rfl | rfl | rfl | rfl | rfl | rfl | rfl | rfl | rfl | rfl | rfl | rfl | rfl | rfl | rfl | rfl | rfl | rfl | rfl
  all_goals rfl

set_option maxRecDepth 100000 in
set_option maxHeartbeats 4000000 in
theorem specOp_named (i : Nat) (hi : i < 22) (q : inB i 1 21 = true) (n m : Int) (dn dm s : ByteArray) (w : World) (hs : s.size ≤ 5) (hdn : dn.size ≤ 21) (hdm : dm.size ≤ 21) (hS : nameS i = s)
    (KN : ∀ W, Calls Tryd.prog 9 #[.int .i64 n] W fun e W' => e = .returned (.string dn) ∧ Below W.heap.size W W')
    (KM : ∀ W, Calls Tryd.prog 9 #[.int .i64 m] W fun e W' => e = .returned (.string dm) ∧ Below W.heap.size W W') :
    Calls Tryd.prog 4 #[.agg #[.int .i64 i, .int .i64 n, .int .i64 m]] w fun e w' => e = .returned (.string (s ++ ⟨#[32]⟩ ++ dn ++ ⟨#[32]⟩ ++ dm)) ∧ Below w.heap.size w w' := by
  have z0 : ¬ (9223372036854775807 < s.size + 1) := by omega
  have z1 : ¬ (9223372036854775807 < s.size + 1 + dn.size) := by omega
  have z2 : ¬ (9223372036854775807 < s.size + 1 + dn.size + 1) := by omega
  have z3 : ¬ (9223372036854775807 < s.size + 1 + dn.size + 1 + dm.size) := by omega
  have hiI : (i : Int) < 22 := by omega
  have HN : Hid _ := KN
  have HM : Hid _ := KM
  have HS : Hid _ := hS
  have D1 : Hid (Opn w (w.alloc (.cells #[.int .i64 i, .int .i64 n, .int .i64 m] 25)) i n m) := Opn.new _ _ _ _ _
  clear KN KM hS hs hdn hdm
  go_enter Tryd.func4, Tryd.ntmps4
  go_wp2_with (go_at_call 7; refine (in_is q).mono ?_; rintro e w' ⟨rfl, hx⟩; subst w')
  generalize w.alloc (.cells #[.int .i64 i, .int .i64 n, .int .i64 m] 25) = w1 at D1 ⊢
  have D : Hid (Opn w w1.drew i n m) := D1.out.drew
  clear D1
  refine wp_region_held_drew (S := (fun W : World => W.cell? ⟨w.heap.size, 0, none⟩ = some (.int .i64 i) ∧ W.cell? ⟨w.heap.size, 1, none⟩ = some (.int .i64 n) ∧ W.cell? ⟨w.heap.size, 2, none⟩ = some (.int .i64 m))) (by kernel_rfl) ⟨D.out.b0, D.out.b1, D.out.b2⟩ ?_
  intro hS0
  refine wpAnyH_take (i := 1) (v := .pointer (some ⟨w.heap.size, 0, none⟩)) rfl (by kernel_rfl) (by kernel_rfl) (by kernel_rfl) (fun _ _ _ h => h) (Or.inl ⟨by kernel_rfl, ?_⟩) hS0 ?_
  · intro W hSw
    obtain ⟨s0, s1, s2⟩ := hSw
    go_simp
  refine wpAnyH_take (i := 2) (v := .int .i64 i) rfl (by kernel_rfl) (by kernel_rfl) (by kernel_rfl) (fun _ _ _ h => h) (Or.inl ⟨by kernel_rfl, ?_⟩) hS0 ?_
  · intro W hSw
    obtain ⟨s0, s1, s2⟩ := hSw
    go_simp
  refine wpAnyH_take (i := 6) (v := .pointer (some ⟨w.heap.size, 1, none⟩)) rfl (by kernel_rfl) (by kernel_rfl) (by kernel_rfl) (fun _ _ _ h => h) (Or.inl ⟨by kernel_rfl, ?_⟩) hS0 ?_
  · intro W hSw
    obtain ⟨s0, s1, s2⟩ := hSw
    go_simp
  refine wpAnyH_take (i := 7) (v := .int .i64 n) rfl (by kernel_rfl) (by kernel_rfl) (by kernel_rfl) (fun _ _ _ h => h) (Or.inl ⟨by kernel_rfl, ?_⟩) hS0 ?_
  · intro W hSw
    obtain ⟨s0, s1, s2⟩ := hSw
    go_simp
  refine wpAnyH_take (i := 11) (v := .pointer (some ⟨w.heap.size, 2, none⟩)) rfl (by kernel_rfl) (by kernel_rfl) (by kernel_rfl) (fun _ _ _ h => h) (Or.inl ⟨by kernel_rfl, ?_⟩) hS0 ?_
  · intro W hSw
    obtain ⟨s0, s1, s2⟩ := hSw
    go_simp
  refine wpAnyH_take (i := 12) (v := .int .i64 m) rfl (by kernel_rfl) (by kernel_rfl) (by kernel_rfl) (fun _ _ _ h => h) (Or.inl ⟨by kernel_rfl, ?_⟩) hS0 ?_
  · intro W hSw
    obtain ⟨s0, s1, s2⟩ := hSw
    go_simp
  refine wpAnyH_ready (rs := [0]) (by kernel_rfl) (by simp) ?_
  refine AllReadyH.cons rfl (fun K hK => ?_) AllReadyH.nil
  go_simp
  go_at_call 8
  refine (names_any i hi _).mono ?_
  rintro e wN ⟨B, rfl, hBl, CN, hbN⟩
  rw [HS.out] at CN
  have DN : Hid (Opn w wN i n m) := D.out.on hbN
  clear hbN hS0
  refine hK.out _ _ ⟨DN.out.b0, DN.out.b1, DN.out.b2⟩ (fun _ => ?_)
  clear hK K
  refine wpAnyH_stronger (S' := (fun W : World => W.cell? ⟨w.heap.size, 0, none⟩ = some (.int .i64 i) ∧ W.cell? ⟨w.heap.size, 1, none⟩ = some (.int .i64 n) ∧ W.cell? ⟨w.heap.size, 2, none⟩ = some (.int .i64 m) ∧ W.cell? ⟨B, i, none⟩ = some (.string s))) (fun W h => ⟨h.1, h.2.1, h.2.2.1⟩) ?_
  have hS1 : (fun W : World => W.cell? ⟨w.heap.size, 0, none⟩ = some (.int .i64 i) ∧ W.cell? ⟨w.heap.size, 1, none⟩ = some (.int .i64 n) ∧ W.cell? ⟨w.heap.size, 2, none⟩ = some (.int .i64 m) ∧ W.cell? ⟨B, i, none⟩ = some (.string s)) wN := ⟨DN.out.b0, DN.out.b1, DN.out.b2, CN⟩
  refine wpAnyH_take (i := 3) (v := .pointer (some ⟨B, i, none⟩)) rfl (by kernel_rfl) (by kernel_rfl) (by kernel_rfl) (fun _ _ _ h => h) (Or.inl ⟨by kernel_rfl, ?_⟩) hS1 ?_
  · intro W hSw
    obtain ⟨s0, s1, s2, s3⟩ := hSw
    go_simp
  refine wpAnyH_take (i := 4) (v := .string s) rfl (by kernel_rfl) (by kernel_rfl) (by kernel_rfl) (fun _ _ _ h => h) (Or.inl ⟨by kernel_rfl, ?_⟩) hS1 ?_
  · intro W hSw
    obtain ⟨s0, s1, s2, s3⟩ := hSw
    go_simp
  refine wpAnyH_take (i := 5) (v := .string (s ++ ⟨#[32]⟩)) rfl (by kernel_rfl) (by kernel_rfl) (by kernel_rfl) (fun _ _ _ h => h) (Or.inl ⟨by kernel_rfl, ?_⟩) hS1 ?_
  · intro W hSw
    obtain ⟨s0, s1, s2, s3⟩ := hSw
    go_simp
  refine wpAnyH_ready (rs := [8]) (by kernel_rfl) (by simp) ?_
  refine AllReadyH.cons rfl (fun K hK => ?_) AllReadyH.nil
  go_simp
  go_at_call 9
  refine (HN.out _).mono ?_
  rintro e wA ⟨rfl, hbD⟩
  have DA : Hid (Opn w wA i n m) := DN.out.on hbD
  have CNA := (hbD.cell (p := ⟨B, i, none⟩) hBl).trans CN
  have hBlA := Nat.lt_of_lt_of_le hBl hbD.size
  have hSA : (fun W : World => W.cell? ⟨w.heap.size, 0, none⟩ = some (.int .i64 i) ∧ W.cell? ⟨w.heap.size, 1, none⟩ = some (.int .i64 n) ∧ W.cell? ⟨w.heap.size, 2, none⟩ = some (.int .i64 m) ∧ W.cell? ⟨B, i, none⟩ = some (.string s)) wA := ⟨DA.out.b0, DA.out.b1, DA.out.b2, CNA⟩
  clear hbD
  refine hK.out _ _ hSA (fun _ => ?_)
  clear hK K
  refine wpAnyH_take (i := 9) (v := .string (s ++ ⟨#[32]⟩ ++ dn)) rfl (by kernel_rfl) (by kernel_rfl) (by kernel_rfl) (fun _ _ _ h => h) (Or.inl ⟨by kernel_rfl, ?_⟩) hSA ?_
  · intro W hSw
    obtain ⟨s0, s1, s2, s3⟩ := hSw
    go_simp
  refine wpAnyH_take (i := 10) (v := .string (s ++ ⟨#[32]⟩ ++ dn ++ ⟨#[32]⟩)) rfl (by kernel_rfl) (by kernel_rfl) (by kernel_rfl) (fun _ _ _ h => h) (Or.inl ⟨by kernel_rfl, ?_⟩) hSA ?_
  · intro W hSw
    obtain ⟨s0, s1, s2, s3⟩ := hSw
    go_simp
  refine wpAnyH_ready (rs := [13]) (by kernel_rfl) (by simp) ?_
  refine AllReadyH.cons rfl (fun K hK => ?_) AllReadyH.nil
  go_simp
  go_at_call 9
  refine (HM.out _).mono ?_
  rintro e wC ⟨rfl, hbD⟩
  have DC : Hid (Opn w wC i n m) := DA.out.on hbD
  have CNC := (hbD.cell (p := ⟨B, i, none⟩) hBlA).trans CNA
  have hBlC := Nat.lt_of_lt_of_le hBlA hbD.size
  have hSC : (fun W : World => W.cell? ⟨w.heap.size, 0, none⟩ = some (.int .i64 i) ∧ W.cell? ⟨w.heap.size, 1, none⟩ = some (.int .i64 n) ∧ W.cell? ⟨w.heap.size, 2, none⟩ = some (.int .i64 m) ∧ W.cell? ⟨B, i, none⟩ = some (.string s)) wC := ⟨DC.out.b0, DC.out.b1, DC.out.b2, CNC⟩
  clear hbD
  refine hK.out _ _ hSC (fun _ => ?_)
  clear hK K
  refine wpAnyH_take (i := 14) (v := .string (s ++ ⟨#[32]⟩ ++ dn ++ ⟨#[32]⟩ ++ dm)) rfl (by kernel_rfl) (by kernel_rfl) (by kernel_rfl) (fun _ _ _ h => h) (Or.inl ⟨by kernel_rfl, ?_⟩) hSC ?_
  · intro W hSw
    obtain ⟨s0, s1, s2, s3⟩ := hSw
    go_simp
  refine wpAnyH_take (i := 15) (v := .string (s ++ ⟨#[32]⟩ ++ dn ++ ⟨#[32]⟩ ++ dm)) rfl (by kernel_rfl) (by kernel_rfl) (by kernel_rfl) (fun _ _ _ h => h) (Or.inl ⟨by kernel_rfl, ?_⟩) hSC ?_
  · intro W hSw
    obtain ⟨s0, s1, s2, s3⟩ := hSw
    go_simp
  refine wpAnyH_done (by kernel_rfl) ?_ _
  simp only [Act.put, List.getElem_toArray, List.getElem?_toArray, List.getElem_cons_succ, List.getElem_cons_zero, List.getElem?_cons_succ, List.getElem?_cons_zero, List.setIfInBounds_toArray, List.set_cons_succ, List.set_cons_zero]
  go_wp2
  go_ret
  exact ⟨rfl, DC.out.bel⟩

theorem specOpText (c n m : Int) (hn : -9223372036854775808 ≤ n ∧ n ≤ 9223372036854775807) (hm : -9223372036854775808 ≤ m ∧ m ≤ 9223372036854775807) (w : World) :
    Calls Tryd.prog 4 #[.agg #[.int .i64 c, .int .i64 n, .int .i64 m]] w fun e w' => e = .returned (.string (opTx c n m)) ∧ Below w.heap.size w w' := by
  rcases q : inB c 1 21 with _ | _
  · have e : opTx c n m = ⟨#[]⟩ := by simp [opTx, q]
    rw [e]
    have D1 : Hid (Opn w (w.alloc (.cells #[.int .i64 c, .int .i64 n, .int .i64 m] 25)) c n m) := Opn.new _ _ _ _ _
    go_enter Tryd.func4, Tryd.ntmps4
    go_wp2_with (go_at_call 7; refine (in_is q).mono ?_; rintro e w' ⟨rfl, hx⟩; subst w')
    go_ret
    exact ⟨rfl, D1.out.bel⟩
  · obtain ⟨h0, h1⟩ := inB_yes q
    obtain ⟨i, rfl⟩ : ∃ i : Nat, c = i := ⟨c.toNat, by omega⟩
    have e : opTx i n m = nameS i ++ ⟨#[32]⟩ ++ dg n ++ ⟨#[32]⟩ ++ dg m := by simp [opTx, q]
    rw [e]
    exact specOp_named i (by omega) q n m (dg n) (dg m) (nameS i) w (nameS_le i) (dg_le n hn.1 hn.2) (dg_le m hm.1 hm.2) rfl (fun W => walks.digits_any n hn.1 hn.2 W) (fun W => walks.digits_any m hm.1 hm.2 W)

end Go.Proofs.YtepcaeajgnabbaaDoor.fun

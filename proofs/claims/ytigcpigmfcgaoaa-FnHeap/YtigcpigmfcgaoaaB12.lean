/-
  The model's l17Put, where Alloc calls it: a block is put behind all, into words that are the call's own.
-/
import Derived.Deep.RegionWith
import Derived.Test.YtigcpigmfcgaoaaB1
import Derived.Test.YtigcpigmfcgaoaaB2
import Derived.Test.YtigcpigmfcgaoaaB3
import Derived.Test.YtigcpigmfcgaoaaB4
import Derived.Test.YtigcpigmfcgaoaaB5
import Derived.Test.YtigcpigmfcgaoaaB6
import Derived.Test.YtigcpigmfcgaoaaB7
import Derived.Test.YtigcpigmfcgaoaaB8
import Derived.Test.YtigcpigmfcgaoaaB9
import Derived.Test.YtigcpigmfcgaoaaB10
import Derived.Test.YtigcpigmfcgaoaaB11
namespace Go.Proofs.Ytigcpigmfcgaoaa.heap
open Go Go.RowKit Go.Deep Go.Proofs.Ytigcpigmfcgaoaa.rose Go.Proofs.Ytigcpigmfcgaoaa Go.Proofs.Ytigcpigmfcgaoaa.fun Go.Proofs.Ytigcpigmfcgaoaa.words Go.Proofs.Ytigcpigmfcgaoaa.ints
set_option linter.unusedVariables false
set_option linter.unusedSimpArgs false

/-- Where the writing stands. -/
structure WS (w wr : World) (box : Array Value) (g c B : Nat) (n : Nat) (X : List Int) : Prop where
  row : IRow wr B (.slice (some ⟨g, 0, none⟩) n c) X
  bel : Below B w wr
  box_ : wr.heap[w.heap.size]? = some (.cells box 26)
  res : wr.heap[w.heap.size + 1]? = some (.cells #[.slice none 0 0, .int .i64 0, .int .i64 0, .int .i64 0] 26)
  gl : B ≤ g ∧ g < w.heap.size
theorem WS.set {w wr : World} {box : Array Value} {g c B n : Nat} {X : List Int} (h : WS w wr box g c B n X) (hn : n = X.length) {j : Nat} (hj : j < X.length) {x : Int} (hx : InR x) : WS w (wr.setCell ⟨g, j, none⟩ (.int .i64 x)) box g c B n (X.set j x) := by
  have hg := h.gl
  have hs : ∀ k, k ≠ g → (wr.setCell ⟨g, j, none⟩ (.int .i64 x)).heap[k]? = wr.heap[k]? := fun k hk => Below.heap_setCell _ _ _ _ hk
  refine ⟨⟨?_, fun y hy => ?_⟩, h.bel.setCell (by exact hg.1) _, (hs _ (by omega)).trans h.box_, (hs _ (by omega)).trans h.res, hg⟩
  · have := h.row.1
    rw [hn] at this ⊢
    rw [List.length_set, List.map_set]
    exact own_set this (by omega)
  · rcases List.mem_or_eq_of_mem_set hy with hy | rfl
    · exact h.row.2 y hy
    · exact hx
theorem WS.drew {w wr : World} {box : Array Value} {g c B n : Nat} {X : List Int} (h : WS w wr box g c B n X) : WS w wr.drew box g c B n X := ⟨h.row, h.bel.drew, h.box_, h.res, h.gl⟩

set_option maxRecDepth 100000 in
set_option maxHeartbeats 8000000 in
theorem put_is (W : List Int) (hn bn nx : Nat) (fn : Bool) (tag : Int) (kids : List Int) (g c B : Nat) (vk : Value) (w : World) (hd : headB (W, (hn : Int), (bn : Int), (nx : Int)) = true) (ht : 0 ≤ tag ∧ tag ≤ 3000) (hk : kids.length ≤ 20)
    (hI : IRow w B (.slice (some ⟨g, 0, none⟩) W.length c) W) (hr : intsSh.rep w (· < B) [vk] kids) :
    Calls Try.prog 31 #[.agg #[.slice (some ⟨g, 0, none⟩) W.length c, .int .i64 hn, .int .i64 bn, .int .i64 nx], .bool fn, .int .i64 tag, vk] w fun e w' =>
      if (kids.length : Int) < (bn : Int) + hn - nx then
        e = .returned (.tuple #[.agg #[.slice (some ⟨g, 0, none⟩) W.length c, .int .i64 hn, .int .i64 bn, .int .i64 ((nx : Int) + 1 + kids.length)], .int .i64 nx, .bool true]) ∧ IRow w' B (.slice (some ⟨g, 0, none⟩) W.length c) (putW W nx (headW fn tag kids.length :: kids)) ∧ Below B w w'
      else e = .returned (.tuple #[.agg #[.slice (some ⟨g, 0, none⟩) W.length c, .int .i64 hn, .int .i64 bn, .int .i64 nx], .int .i64 0, .bool false]) ∧ Below w.heap.size w w' := by
  have H1 := head_in hd
  dsimp only at H1
  obtain ⟨ak, ck, hvk⟩ : ∃ a c, vk = .slice a kids.length c := by obtain ⟨a, c, e⟩ := slice_cells hr; simp only [List.cons.injEq, and_true] at e; exact ⟨a, c, e⟩
  have hg := hI.lt g rfl
  by_cases hroom : (kids.length : Int) < (bn : Int) + hn - nx
  case neg =>
    simp only [if_neg hroom]
    subst hvk
    have t1 : decide ((bn : Int) + hn - nx ≤ (kids.length : Int)) = true := by simp; omega
    clear hI hr
    go_enter Try.func31, Try.ntmps31
    go_wp2
    refine bodyPost_ret (v := .tuple #[.agg #[.slice (some ⟨g, 0, none⟩) W.length c, .int .i64 hn, .int .i64 bn, .int .i64 nx], .int .i64 0, .bool false]) (by simp [results, Try.f31, go_sem]) rfl ?_
    exact ⟨rfl, ((Below.refl _ _).alloc (Nat.le_refl _) _).alloc (by simp) _⟩
  case pos =>
    simp only [if_pos hroom]
    have t1 : decide ((bn : Int) + hn - nx ≤ (kids.length : Int)) = false := by simp; omega
    subst hvk
    have hbox : Below w.heap.size w ((w.alloc (.cells #[.slice (some ⟨g, 0, none⟩) W.length c, .int .i64 hn, .int .i64 bn, .int .i64 nx] 26)).alloc (.cells #[.slice none 0 0, .int .i64 0, .int .i64 0, .int .i64 0] 26)) := ((Below.refl _ _).alloc (Nat.le_refl _) _).alloc (by simp) _
    have S0 : Hid (WS w ((w.alloc (.cells #[.slice (some ⟨g, 0, none⟩) W.length c, .int .i64 hn, .int .i64 bn, .int .i64 nx] 26)).alloc (.cells #[.slice none 0 0, .int .i64 0, .int .i64 0, .int .i64 0] 26)) #[.slice (some ⟨g, 0, none⟩) W.length c, .int .i64 hn, .int .i64 bn, .int .i64 nx] g c B W.length W) := by
      refine ⟨hI.keep hbox, hbox.mono (by omega), ?_, ?_, hg⟩
      · rw [Below.heap_alloc _ _ _ (by simp)]; exact alloc_top _ _
      · have := alloc_top (w.alloc (.cells #[.slice (some ⟨g, 0, none⟩) W.length c, .int .i64 hn, .int .i64 bn, .int .i64 nx] 26)) (.cells #[.slice none 0 0, .int .i64 0, .int .i64 0, .int .i64 0] 26)
        rwa [World.size_alloc] at this
    have hnl : nx + 1 + kids.length ≤ W.length ∧ W.length ≤ 6000 := by omega
    obtain ⟨hd0, hhd⟩ : ∃ z, z = headW fn tag kids.length := ⟨_, rfl⟩
    have hhr : InR hd0 := by rw [hhd]; unfold headW InR; split <;> omega
    have HH := head_is fn tag kids.length ((w.alloc (.cells #[.slice (some ⟨g, 0, none⟩) W.length c, .int .i64 hn, .int .i64 bn, .int .i64 nx] 26)).alloc (.cells #[.slice none 0 0, .int .i64 0, .int .i64 0, .int .i64 0] 26)).drew ht hk
    rw [← hhd] at HH
    have e0 : ((w.alloc (.cells #[.slice (some ⟨g, 0, none⟩) W.length c, .int .i64 hn, .int .i64 bn, .int .i64 nx] 26)).alloc (.cells #[.slice none 0 0, .int .i64 0, .int .i64 0, .int .i64 0] 26)).cell? ⟨g, nx, none⟩ = some (.int .i64 (W[nx]'(by omega))) := by
      rcases S0.out.row.open with ⟨h0, -⟩ | ⟨g', cp, hv, -, -, -, -, hcl, -⟩
      · cases h0
      · cases hv; exact hcl nx (by omega)
    have ef : ∀ j, ((w.alloc (.cells #[.slice (some ⟨g, 0, none⟩) W.length c, .int .i64 hn, .int .i64 bn, .int .i64 nx] 26)).alloc (.cells #[.slice none 0 0, .int .i64 0, .int .i64 0, .int .i64 0] 26)).frozen? ⟨g, j, none⟩ = false := fun j => by
      rcases S0.out.row.open with ⟨h0, -⟩ | ⟨g', cp, hv, -, -, -, -, -, cu, tt, hcu⟩
      · cases h0
      · cases hv; simp [World.frozen?, hcu]
    have hZs : (w.setCell ⟨g, nx, none⟩ (.int .i64 hd0)).heap.size = w.heap.size := by simp [World.setCell]
    have S1 : Hid (WS w (((w.setCell ⟨g, nx, none⟩ (.int .i64 hd0)).alloc (.cells #[.slice (some ⟨g, 0, none⟩) W.length c, .int .i64 hn, .int .i64 bn, .int .i64 nx] 26)).alloc (.cells #[.slice none 0 0, .int .i64 0, .int .i64 0, .int .i64 0] 26)).drew #[.slice (some ⟨g, 0, none⟩) W.length c, .int .i64 hn, .int .i64 bn, .int .i64 nx] g c B W.length (putW W nx [hd0])) := by
      have hbs : Below B w (w.setCell ⟨g, nx, none⟩ (.int .i64 hd0)) := (Below.refl _ _).setCell (by exact hg.1) _
      have hb2 : Below (w.setCell ⟨g, nx, none⟩ (.int .i64 hd0)).heap.size (w.setCell ⟨g, nx, none⟩ (.int .i64 hd0)) (((w.setCell ⟨g, nx, none⟩ (.int .i64 hd0)).alloc (.cells #[.slice (some ⟨g, 0, none⟩) W.length c, .int .i64 hn, .int .i64 bn, .int .i64 nx] 26)).alloc (.cells #[.slice none 0 0, .int .i64 0, .int .i64 0, .int .i64 0] 26)) := ((Below.refl _ _).alloc (Nat.le_refl _) _).alloc (by simp) _
      have hIs : IRow (w.setCell ⟨g, nx, none⟩ (.int .i64 hd0)) B (.slice (some ⟨g, 0, none⟩) W.length c) (W.set nx hd0) := by
        refine ⟨?_, fun y hy => ?_⟩
        · rw [List.length_set, List.map_set]; exact own_set hI.1 (by omega)
        · rcases List.mem_or_eq_of_mem_set hy with hy | rfl
          · exact hI.2 y hy
          · exact hhr
      refine ⟨hIs.keep hb2.drew, (hbs.trans (hb2.mono (by omega))).drew, ?_, ?_, hg⟩
      · show (World.alloc _ _).heap[w.heap.size]? = _
        rw [Below.heap_alloc _ _ _ (by first | (simp; done) | (simp; omega))]
        have := alloc_top (w.setCell ⟨g, nx, none⟩ (.int .i64 hd0)) (.cells #[.slice (some ⟨g, 0, none⟩) W.length c, .int .i64 hn, .int .i64 bn, .int .i64 nx] 26)
        rwa [hZs] at this
      · have := alloc_top ((w.setCell ⟨g, nx, none⟩ (.int .i64 hd0)).alloc (.cells #[.slice (some ⟨g, 0, none⟩) W.length c, .int .i64 hn, .int .i64 bn, .int .i64 nx] 26)) (.cells #[.slice none 0 0, .int .i64 0, .int .i64 0, .int .i64 0] 26)
        rw [World.size_alloc, hZs] at this
        exact this
    obtain ⟨ak', ck', ekk, -, -, hkat⟩ := ints_open hr
    cases ekk
    have HKA : Hid _ := hkat
    clear hkat
    have HHD : Hid (hd0 = headW fn tag kids.length) := hhd
    have nI : (nx : Int) < (W.length : Int) := by omega
    generalize W[nx]'(by omega) = y0 at e0
    clear hI hr hbox hd hhd
    go_enter Try.func31, Try.ntmps31
    go_wp2
    go_region_with (go_at_call 55; refine HH.mono ?_; rintro e w' ⟨rfl, hx⟩; subst w')
    all_goals
      go_wp2
      go_loopw [12] (fun v12 wr => ∃ i : Nat, i ≤ kids.length ∧ v12 = .int .i64 i ∧ Hid (WS w wr #[.slice (some ⟨g, 0, none⟩) W.length c, .int .i64 hn, .int .i64 bn, .int .i64 nx] g c B W.length (putW W nx (hd0 :: kids.take i)))) (fun v12 _ => kids.length - (intOf v12).toNat)
      case atStart => exact ⟨0, Nat.zero_le _, rfl, S1.out⟩
      case round =>
        obtain ⟨i, hi, rfl, HS⟩ := hrel
        have hXl : (putW W nx (hd0 :: kids.take i)).length = W.length := putW_length _ _ _
        have b0 : wr.cell? ⟨w.heap.size, 0, none⟩ = some (.slice (some ⟨g, 0, none⟩) W.length c) := by simp [World.cell?, HS.out.box_]
        have b1 : wr.cell? ⟨w.heap.size, 1, none⟩ = some (.int .i64 hn) := by simp [World.cell?, HS.out.box_]
        have b2 : wr.cell? ⟨w.heap.size, 2, none⟩ = some (.int .i64 bn) := by simp [World.cell?, HS.out.box_]
        have b3 : wr.cell? ⟨w.heap.size, 3, none⟩ = some (.int .i64 nx) := by simp [World.cell?, HS.out.box_]
        by_cases hlt : i < kids.length
        · obtain ⟨kb, ko, rfl, hS, hc, r1, r2⟩ := HKA.out i hlt
          have e1 : wr.cell? ⟨kb, ko + i, none⟩ = some (.int .i64 kids[i]) := (HS.out.bel.cell (p := ⟨kb, ko + i, none⟩) hS).trans hc
          have hjl : nx + 1 + i < (putW W nx (hd0 :: kids.take i)).length := by rw [hXl]; omega
          obtain ⟨y2, e2, ef2⟩ : ∃ y2, wr.cell? ⟨g, nx + 1 + i, none⟩ = some (.int .i64 y2) ∧ ∀ j, wr.frozen? ⟨g, j, none⟩ = false := by
            rcases HS.out.row.open with ⟨h0, -⟩ | ⟨g', cp, hv, -, -, -, -, hcl, cu, tt, hcu⟩
            · cases h0
            · rw [hXl] at hv; cases hv; exact ⟨_, hcl (nx + 1 + i) hjl, fun j => by simp [World.frozen?, hcu]⟩
          have NX : Hid (WS w (wr.setCell ⟨g, nx + 1 + i, none⟩ (.int .i64 kids[i])).drew #[.slice (some ⟨g, 0, none⟩) W.length c, .int .i64 hn, .int .i64 bn, .int .i64 nx] g c B W.length (putW W nx (hd0 :: kids.take (i + 1)))) := by
            have h5 : putW W nx (hd0 :: kids.take (i + 1)) = (putW W nx (hd0 :: kids.take i)).set (nx + 1 + i) kids[i] := by
              rw [List.take_succ_eq_append_getElem hlt, ← List.cons_append, putW_push]
              congr 1
              simp; omega
            rw [h5]
            exact (HS.out.set hXl.symm hjl ⟨r1, r2⟩).drew
          have iI : (i : Int) < (kids.length : Int) := by omega
          have jI : (nx : Int) + 1 + (i : Int) < (W.length : Int) := by omega
          generalize kids[i] = kx at e1 NX
          clear hc r1 r2 hjl
          go_wp2
          go_region
          all_goals
            go_wp2
            go_round
            case rel => exact ⟨i + 1, by omega, by go_num, NX⟩
            case measure => simp [intOf]; omega
        · obtain rfl : i = kids.length := by omega
          have z0 : wr.cell? ⟨w.heap.size + 1, 0, none⟩ = some (.slice none 0 0) := by simp [World.cell?, HS.out.res]
          have z1 : wr.cell? ⟨w.heap.size + 1, 1, none⟩ = some (.int .i64 0) := by simp [World.cell?, HS.out.res]
          have z2 : wr.cell? ⟨w.heap.size + 1, 2, none⟩ = some (.int .i64 0) := by simp [World.cell?, HS.out.res]
          have z3 : wr.cell? ⟨w.heap.size + 1, 3, none⟩ = some (.int .i64 0) := by simp [World.cell?, HS.out.res]
          have zf : ∀ j, wr.frozen? ⟨w.heap.size + 1, j, none⟩ = false := fun j => by simp [World.frozen?, HS.out.res]
          have bf : ∀ j, wr.frozen? ⟨w.heap.size, j, none⟩ = false := fun j => by simp [World.frozen?, HS.out.box_]
          have hHE : putW W nx (hd0 :: kids.take kids.length) = putW W nx (headW fn tag kids.length :: kids) := by rw [List.take_length, HHD.out]
          have hgl := HS.out.gl
          go_wp2
          refine bodyPost_ret (v := .tuple #[.agg #[.slice (some ⟨g, 0, none⟩) W.length c, .int .i64 hn, .int .i64 bn, .int .i64 ((nx : Int) + 1 + kids.length)], .int .i64 nx, .bool true]) (by simp [results, Try.f31, go_sem, z0, z1, z2, z3]) rfl ?_
          refine ⟨rfl, ?_, ?_⟩
          · rw [← hHE]
            refine ⟨?_, HS.out.row.2⟩
            have h6 := HS.out.row.1
            rw [hXl] at h6 ⊢
            refine own_same h6 fun q hq => ?_
            simp only [Value.ownBlock, Option.some.injEq] at hq
            subst hq
            repeat rw [Below.heap_setCell _ _ _ _ (by first | (show g ≠ w.heap.size + 1; omega) | (show g ≠ w.heap.size; omega))]
          · have hB := HS.out.bel
            repeat first | with_reducible exact hB | (refine Below.setCell ?_ (by first | (show B ≤ w.heap.size + 1; omega) | (show B ≤ w.heap.size; omega)) _)

end Go.Proofs.Ytigcpigmfcgaoaa.heap

/-
  The program's wordsAsValues.top: what stands on top of a word, and the words of its kids; nothing that was there is turned but the lock's word, and that is as it was in the end.
-/
import Derived.Test.YtjofmoebijdccaaGreatB1
import Derived.Test.YtjofmoebijdccaaGreatB2
import Derived.Test.YtjofmoebijdccaaGreatB3
import Derived.Test.YtjofmoebijdccaaGreatB4
import Derived.Test.YtjofmoebijdccaaGreatB5
import Derived.Test.YtjofmoebijdccaaGreatB6
import Derived.Test.YtjofmoebijdccaaGreatB7
import Derived.Test.YtjofmoebijdccaaGreatB8
import Derived.Test.YtjofmoebijdccaaGreatB9
import Derived.Test.YtjofmoebijdccaaGreatB10
import Derived.Test.YtjofmoebijdccaaGreatB11
import Derived.Test.YtjofmoebijdccaaGreatB12
import Derived.Test.YtjofmoebijdccaaGreatB13
import Derived.Test.YtjofmoebijdccaaGreatB14
import Derived.Test.YtjofmoebijdccaaGreatB15
import Derived.Test.YtjofmoebijdccaaGreatB16
import Derived.Test.YtjofmoebijdccaaGreatB17
import Derived.Test.YtjofmoebijdccaaGreatB18
import Derived.Test.YtjofmoebijdccaaGreatB19
import Derived.Test.YtjofmoebijdccaaGreatB20
import Derived.Test.YtjofmoebijdccaaGreatB21
import Derived.Test.YtjofmoebijdccaaGreatB22
import Derived.Test.YtjofmoebijdccaaGreatB23
import Derived.Test.YtjofmoebijdccaaGreatB24
import Derived.Test.YtjofmoebijdccaaGreatB25
import Derived.Test.YtjofmoebijdccaaGreatB26
import Derived.Test.YtjofmoebijdccaaGreatB27
import Derived.Test.YtjofmoebijdccaaGreatB28
import Derived.Test.YtjofmoebijdccaaGreatB29
namespace Go.Proofs.YtjofmoebijdccaaGreat.back
open Go Go.RowKit Go.Proofs.YtjofmoebijdccaaGreat.rose Go.Proofs.YtjofmoebijdccaaGreat Go.Proofs.YtjofmoebijdccaaGreat.heap Go.Proofs.YtjofmoebijdccaaGreat.fun Go.Proofs.YtjofmoebijdccaaGreat.words Go.Proofs.YtjofmoebijdccaaGreat.ints
set_option linter.unusedVariables false
set_option linter.unusedSimpArgs false

theorem blkI {w : World} {b i : Nat} {cur : Array Value} {t : TypeId} {v : Value} (h : w.heap[b]? = some (.cells cur t)) (hi : cur[i]? = some v) : w.cell? ⟨b, i, none⟩ = some v := by simp [World.cell?, h, hi]
theorem frzI {w : World} {b i : Nat} {cur : Array Value} {t : TypeId} (h : w.heap[b]? = some (.cells cur t)) : w.frozen? ⟨b, i, none⟩ = false := by simp [World.frozen?, h]
theorem s4_blk {wr : World} {b : Nat} {t : TypeId} {p0 p1 p2 p3 n0 n1 n2 n3 : Value} (h : wr.heap[b]? = some (.cells #[p0, p1, p2, p3] t)) :
    ((((wr.setCell ⟨b, 0, none⟩ n0).setCell ⟨b, 1, none⟩ n1).setCell ⟨b, 2, none⟩ n2).setCell ⟨b, 3, none⟩ n3).heap[b]? = some (.cells #[n0, n1, n2, n3] t) := by
  simp [World.setCell, Array.getElem?_modify, h]
theorem s4_other {wr : World} {b k : Nat} {n0 n1 n2 n3 : Value} (h : k ≠ b) :
    ((((wr.setCell ⟨b, 0, none⟩ n0).setCell ⟨b, 1, none⟩ n1).setCell ⟨b, 2, none⟩ n2).setCell ⟨b, 3, none⟩ n3).heap[k]? = wr.heap[k]? := by
  repeat rw [Below.heap_setCell _ _ _ _ h]
theorem only4I {S : Nat → Prop} {w wr : World} (h : Only S w wr) (b : Nat) (n0 n1 n2 n3 : Value) (hb : b < w.heap.size → S b) :
    Only S w ((((wr.setCell ⟨b, 0, none⟩ n0).setCell ⟨b, 1, none⟩ n1).setCell ⟨b, 2, none⟩ n2).setCell ⟨b, 3, none⟩ n3) :=
  (((h.set b 0 n0 hb).set b 1 n1 hb).set b 2 n2 hb).set b 3 n3 hb
theorem s3_other {wr : World} {b k : Nat} {n0 n1 n2 : Value} (h : k ≠ b) : (((wr.setCell ⟨b, 0, none⟩ n0).setCell ⟨b, 1, none⟩ n1).setCell ⟨b, 2, none⟩ n2).heap[k]? = wr.heap[k]? := by
  repeat rw [Below.heap_setCell _ _ _ _ h]
theorem cellA {w : World} {b j : Nat} {v : Value} {X : Obj} (h : w.cell? ⟨b, j, none⟩ = some v) : (w.alloc X).cell? ⟨b, j, none⟩ = some v := by
  have hb : b < w.heap.size := by
    rcases Nat.lt_or_ge b w.heap.size with q | q
    · exact q
    · simp [World.cell?, Array.getElem?_eq_none q] at h
  exact (((Below.refl _ w).alloc (Nat.le_refl _) X).cell (p := ⟨b, j, none⟩) hb).trans h
theorem cellS3 {w4 : World} {g b j : Nat} {v n0 n1 n2 : Value} (h : w4.cell? ⟨b, j, none⟩ = some v) (hne : b ≠ g) : (((w4.setCell ⟨g, 0, none⟩ n0).setCell ⟨g, 1, none⟩ n1).setCell ⟨g, 2, none⟩ n2).cell? ⟨b, j, none⟩ = some v := by
  simp only [World.cell?] at h ⊢
  rw [s3_other hne]
  exact h
theorem tag_pos {x : Int} (h : 0 ≤ x) : tagF x = tagS x := by unfold tagF tagS; rw [Int.tdiv_eq_ediv_of_nonneg (by omega)]
theorem head_pos {W : List Int} {nx : Nat} : ∀ {p : Nat}, (plF W nx p).2 = true → ∀ z : Nat, (z : Int) ∈ (plF W nx p).1 → 0 ≤ W.getD z 0 := by
  intro p
  induction hd : nx - p using Nat.strongRecOn generalizing p with
  | _ d ih =>
    intro hok z hz
    by_cases hp : p < nx
    · rcases hb : badH (W.getD p 0) ((nx : Int) - p) with _ | _
      · rw [plF_more hp hb] at hok hz
        rcases List.mem_cons.1 hz with e | hz
        · obtain rfl : z = p := by omega
          unfold badH at hb
          simp only [Bool.or_eq_false_iff, decide_eq_false_iff_not] at hb
          omega
        · exact ih (nx - (p + 1 + (manyF (W.getD p 0)).toNat)) (by omega) rfl hok z hz
      · rw [plF_bad hp hb] at hok; cases hok
    · rw [plF_end (by omega)] at hz; cases hz

set_option maxHeartbeats 1000000 in
theorem isrefI_is {n : Int} {b : Bool} {w : World} (h : decide (n % 2 = 0) = b) : Calls Tryz.prog 77 #[.int .i64 n] w fun e w' => e = .returned (.bool b) ∧ w' = w := by
  have ha := and_one n
  go_enter Tryz.func77, Tryz.ntmps77
  go_wp2
  go_ret
  exact ⟨ret_b (by rw [← h]; rw [Bool.eq_iff_iff]; simp), rfl⟩
set_option maxHeartbeats 1000000 in
theorem wordintI_is (n : Int) (w : World) : Calls Tryz.prog 78 #[.int .i64 n] w fun e w' => e = .returned (.int .i64 (n / 2)) ∧ w' = w := by
  go_enter Tryz.func78, Tryz.ntmps78
  go_wp2
  go_ret
  exact ⟨rfl, rfl⟩
set_option maxHeartbeats 1000000 in
theorem wordrefI_is (n : Int) (w : World) : Calls Tryz.prog 80 #[.int .i64 n] w fun e w' => e = .returned (.int .i64 (n / 2)) ∧ w' = w := by
  go_enter Tryz.func80, Tryz.ntmps80
  go_wp2
  go_ret
  exact ⟨rfl, rfl⟩

theorem irow_base {w : World} {base base' : Nat} {v : Value} {l : List Int} (h : IRow w base v l) (hb : base' ≤ base) : IRow w base' v l := ⟨own_base h.1 hb, h.2⟩

/-- What top leaves. -/
structure TopOut (B hb hm : Nat) (wv : Value) (W : List Int) (half base next : Nat) (M : List Bool) (w : World) (o : Option (PD × List Int)) (e : Ending) (w' : World) : Prop where
  only : Only (· = hb) w w'
  held : HH B hb hm wv W half base next 0 M w'
  no : o = none → e = .returned (.tuple #[.agg #[.int .i64 0, .int .i64 0, .string ⟨#[]⟩, .slice none 0 0], .slice none 0 0, .bool false])
  yes : ∀ p kids, o = some (p, kids) → p.2.2.size ≤ maxLen ∧ ∃ v, e = .returned (.tuple #[.agg #[.int .i64 p.1, .int .i64 p.2.1, .string p.2.2, .slice none 0 0], v, .bool true]) ∧ IRow w' w.heap.size v kids

/-- What is behind the call of block: the header stands in g7. -/
structure TopK (B hb hm : Nat) (wv : Value) (W : List Int) (half base next : Nat) (M : List Bool) (wa w5 : World) (g7 : Nat) (hf : Bool) (tg mn : Int) (v : Value) (kids : List Int) : Prop where
  only : Only (· = hb) wa w5
  held : HH B hb hm wv W half base next 0 M w5
  row : IRow w5 wa.heap.size v kids
  at_ : w5.heap[g7]? = some (.cells #[.bool hf, .int .i64 tg, .int .i64 mn] 158)

section
variable {B hb hm : Nat} {wv : Value} {W : List Int} {half base next : Nat} {M : List Bool} {wa w4 : World} {hf : Bool} {tg mn : Int} {v : Value} {kids : List Int}
theorem topk_a (ho : Only (· = hb) wa.drew w4) (hh : HH B hb hm wv W half base next 0 M w4) (hr : IRow w4 wa.drew.heap.size v kids) :
    TopK B hb hm wv W half base next M wa (w4.alloc (.cells #[.bool hf, .int .i64 tg, .int .i64 mn] 158)) w4.heap.size hf tg mn v kids :=
  ⟨((Only.refl _ wa).drew.trans ho).alloc _, hh.on ((Below.refl _ _).alloc (Nat.le_refl _) _), hr.keep ((Below.refl _ _).alloc (Nat.le_refl _) _), alloc_top _ _⟩
theorem topk_b {p0 p1 p2 : Value} (hw : hb < wa.heap.size ∧ hm < wa.heap.size ∧ B ≤ wa.heap.size) (ho : Only (· = hb) (wa.alloc (.cells #[p0, p1, p2] 158)).drew w4) (hh : HH B hb hm wv W half base next 0 M w4) (hr : IRow w4 (wa.alloc (.cells #[p0, p1, p2] 158)).drew.heap.size v kids) :
    TopK B hb hm wv W half base next M wa (((w4.setCell ⟨wa.heap.size, 0, none⟩ (.bool hf)).setCell ⟨wa.heap.size, 1, none⟩ (.int .i64 tg)).setCell ⟨wa.heap.size, 2, none⟩ (.int .i64 mn)) wa.heap.size hf tg mn v kids := by
  have hs : (wa.alloc (.cells #[p0, p1, p2] 158)).drew.heap.size = wa.heap.size + 1 := by show (wa.alloc _).heap.size = _; simp
  have ht : (wa.alloc (.cells #[p0, p1, p2] 158)).drew.heap[wa.heap.size]? = some (.cells #[p0, p1, p2] 158) := alloc_top _ _
  have hz : w4.heap[wa.heap.size]? = some (.cells #[p0, p1, p2] 158) := (ho.block _ (by omega) (by omega)).trans ht
  have h1 : Only (· = hb) wa w4 := (((Only.refl _ wa).alloc _).drew).trans ho
  refine ⟨((h1.set _ 0 _ (fun hl => absurd hl (Nat.lt_irrefl _))).set _ 1 _ (fun hl => absurd hl (Nat.lt_irrefl _))).set _ 2 _ (fun hl => absurd hl (Nat.lt_irrefl _)), hh.res _ _ _ (by omega) (by omega) (by omega), irow_base (irow_res3 _ _ _ hr (by omega)) (by omega), setr3 _ _ _ hz⟩
end

/-- What is answered at w5, its result written. -/
theorem top_end {B hb hm : Nat} {wv : Value} {W : List Int} {half base next : Nat} {M : List Bool} {w w5 : World} {o : Option (PD × List Int)} {e : Ending} (hw : hb < w.heap.size ∧ hm < w.heap.size ∧ B ≤ w.heap.size) (ho : Only (· = hb) w w5) (hh : HH B hb hm wv W half base next 0 M w5) (n0 n1 n2 n3 : Value)
    (hno : o = none → e = .returned (.tuple #[.agg #[.int .i64 0, .int .i64 0, .string ⟨#[]⟩, .slice none 0 0], .slice none 0 0, .bool false]))
    (hyes : ∀ p kids, o = some (p, kids) → p.2.2.size ≤ maxLen ∧ ∃ v, e = .returned (.tuple #[.agg #[.int .i64 p.1, .int .i64 p.2.1, .string p.2.2, .slice none 0 0], v, .bool true]) ∧ IRow w5 (w.heap.size + 2) v kids) :
    TopOut B hb hm wv W half base next M w o e ((((w5.setCell ⟨w.heap.size + 1, 0, none⟩ n0).setCell ⟨w.heap.size + 1, 1, none⟩ n1).setCell ⟨w.heap.size + 1, 2, none⟩ n2).setCell ⟨w.heap.size + 1, 3, none⟩ n3) := by
  refine ⟨only4I ho _ _ _ _ _ (fun hl => by omega), (((hh.other 0 n0 (by omega) (by omega) (by omega)).other 1 n1 (by omega) (by omega) (by omega)).other 2 n2 (by omega) (by omega) (by omega)).other 3 n3 (by omega) (by omega) (by omega), hno, fun p kids hp => ?_⟩
  obtain ⟨h1, v, h2, h3⟩ := hyes p kids hp
  exact ⟨h1, v, h2, irow_base ⟨own_same h3.1 fun q hq => s4_other (by have := (h3.lt q hq).1; omega), h3.2⟩ (by omega)⟩

set_option maxRecDepth 100000 in
set_option maxHeartbeats 8000000 in
/-- An int. -/
theorem top_atint {B hb hm : Nat} {wv : Value} {W : List Int} {half base next : Nat} {M : List Bool} {w : World} (h : HH B hb hm wv W half base next 0 M w) (ks : List data.DataD) (lo : Nat) (cv : Value) (hc : data.CRow w lo cv (data.spots 0 0 ks)) (hcv : ∀ g, cv.ownBlock = some g → g ≠ hb) (htl : (data.spots 0 0 ks).length ≤ 1048576) (hnb : ∀ j (hj : j < (data.spots 0 0 ks).length), (data.spots 0 0 ks)[j].c.1.size ≤ 1048576) (x : Int) (hx1 : -9223372036854775808 ≤ x) (hx2 : x ≤ 9223372036854775807) (hx : decide (x % 2 = 0) = false) :
    Calls Tryz.prog 54 #[.agg #[.pointer (some ⟨hb, 0, none⟩), cv], .int .i64 x] w fun e w' => TopOut B hb hm wv W half base next M w (some ((1, x / 2, ⟨#[]⟩), [])) e w' := by
  have hlo := h.lo
  have hlt := h.lt
  have hC : Hid (data.CRow w lo cv (data.spots 0 0 ks)) := hc
  obtain ⟨⟨ac, cap, rfl, hcc⟩, hnm⟩ := hc
  obtain ⟨wa, hwa⟩ : ∃ wa, wa = ((w.alloc (.cells #[.pointer (some ⟨hb, 0, none⟩), .slice ac (data.spots 0 0 ks).length cap] 109)).alloc (.cells #[.int .i64 0, .int .i64 0, .string ⟨#[]⟩, .slice none 0 0] 34)) := ⟨_, rfl⟩
  have BA : Hid (Below w.heap.size w wa) := by rw [hwa]; exact ((Below.refl _ _).alloc (Nat.le_refl _) _).alloc (by simp) _
  have HA : Hid (HH B hb hm wv W half base next 0 M wa) := h.on BA.out
  have SA : Hid (wa.heap.size = w.heap.size + 2) := by show _ = _; rw [hwa]; simp
  have XA : Hid (wa.heap[w.heap.size]? = some (.cells #[.pointer (some ⟨hb, 0, none⟩), .slice ac (data.spots 0 0 ks).length cap] 109)) := by show _ = _; rw [hwa]; exact (Below.heap_alloc _ _ _ (by simp)).trans (alloc_top _ _)
  have RA : Hid (wa.heap[w.heap.size + 1]? = some (.cells #[.int .i64 0, .int .i64 0, .string ⟨#[]⟩, .slice none 0 0] 34)) := by
    show _ = _
    rw [hwa]
    have := alloc_top (w.alloc (.cells #[.pointer (some ⟨hb, 0, none⟩), .slice ac (data.spots 0 0 ks).length cap] 109)) (.cells #[.int .i64 0, .int .i64 0, .string ⟨#[]⟩, .slice none 0 0] 34)
    rwa [World.size_alloc] at this
  have r0 : wa.cell? ⟨w.heap.size + 1, 0, none⟩ = some (.int .i64 0) := blkI (i := 0) RA.out rfl
  have r1 : wa.cell? ⟨w.heap.size + 1, 1, none⟩ = some (.int .i64 0) := blkI (i := 1) RA.out rfl
  have r2 : wa.cell? ⟨w.heap.size + 1, 2, none⟩ = some (.string ⟨#[]⟩) := blkI (i := 2) RA.out rfl
  have r3 : wa.cell? ⟨w.heap.size + 1, 3, none⟩ = some (.slice none 0 0) := blkI (i := 3) RA.out rfl
  have fr : ∀ o, wa.frozen? ⟨w.heap.size + 1, o, none⟩ = false := fun o => frzI RA.out
  have HB : Hid (hb < w.heap.size ∧ hm < w.heap.size ∧ B ≤ w.heap.size) := by show _ ∧ _; omega
  have HO : Hid (Only (· = hb) w wa) := Only.ofBelow BA.out
  have HH0 : Hid (HH B hb hm wv W half base next 0 M w) := h
  subst hwa
  clear h hcc hnm hnb
  go_enter Tryz.func54, Tryz.ntmps54
  go_wp2_with (first | (go_at_call 77; refine (isrefI_is hx).mono ?_; rintro e w' ⟨rfl, hxx⟩; subst w') | (go_at_call 78; refine (wordintI_is _ _).mono ?_; rintro e w' ⟨rfl, hxx⟩; subst w'))
  refine bodyPost_ret (v := .tuple #[.agg #[.int .i64 1, .int .i64 (x / 2), .string ⟨#[]⟩, .slice none 0 0], .slice none 0 0, .bool true]) (by simp [results, Tryz.f54, go_sem, r0, r1, r2, r3]) rfl ?_
  refine ⟨((Only.refl _ w).alloc _).alloc _, HH0.out.on (((Below.refl _ _).alloc (Nat.le_refl _) _).alloc (by simp) _), ?_, ?_⟩
  · intro hn; cases hn
  · intro p kids hp
    simp only [Option.some.injEq, Prod.mk.injEq] at hp
    obtain ⟨rfl, rfl⟩ := hp
    exact ⟨by simp [ByteArray.size], _, rfl, IRow.nil _ _⟩

set_option maxRecDepth 100000 in
set_option maxHeartbeats 8000000 in
/-- A place of no block. -/
theorem top_atnone {B hb hm : Nat} {wv : Value} {W : List Int} {half base next : Nat} {M : List Bool} {w : World} (h : HH B hb hm wv W half base next 0 M w) (ks : List data.DataD) (lo : Nat) (cv : Value) (hc : data.CRow w lo cv (data.spots 0 0 ks)) (hcv : ∀ g, cv.ownBlock = some g → g ≠ hb) (htl : (data.spots 0 0 ks).length ≤ 1048576) (hnb : ∀ j (hj : j < (data.spots 0 0 ks).length), (data.spots 0 0 ks)[j].c.1.size ≤ 1048576) (x : Int) (hx1 : -9223372036854775808 ≤ x) (hx2 : x ≤ 9223372036854775807) (hx : decide (x % 2 = 0) = true) (hat : atB base next M (x / 2) = false) :
    Calls Tryz.prog 54 #[.agg #[.pointer (some ⟨hb, 0, none⟩), cv], .int .i64 x] w fun e w' => TopOut B hb hm wv W half base next M w (none) e w' := by
  have hlo := h.lo
  have hlt := h.lt
  have hC : Hid (data.CRow w lo cv (data.spots 0 0 ks)) := hc
  obtain ⟨⟨ac, cap, rfl, hcc⟩, hnm⟩ := hc
  obtain ⟨wa, hwa⟩ : ∃ wa, wa = ((w.alloc (.cells #[.pointer (some ⟨hb, 0, none⟩), .slice ac (data.spots 0 0 ks).length cap] 109)).alloc (.cells #[.int .i64 0, .int .i64 0, .string ⟨#[]⟩, .slice none 0 0] 34)) := ⟨_, rfl⟩
  have BA : Hid (Below w.heap.size w wa) := by rw [hwa]; exact ((Below.refl _ _).alloc (Nat.le_refl _) _).alloc (by simp) _
  have HA : Hid (HH B hb hm wv W half base next 0 M wa) := h.on BA.out
  have SA : Hid (wa.heap.size = w.heap.size + 2) := by show _ = _; rw [hwa]; simp
  have XA : Hid (wa.heap[w.heap.size]? = some (.cells #[.pointer (some ⟨hb, 0, none⟩), .slice ac (data.spots 0 0 ks).length cap] 109)) := by show _ = _; rw [hwa]; exact (Below.heap_alloc _ _ _ (by simp)).trans (alloc_top _ _)
  have RA : Hid (wa.heap[w.heap.size + 1]? = some (.cells #[.int .i64 0, .int .i64 0, .string ⟨#[]⟩, .slice none 0 0] 34)) := by
    show _ = _
    rw [hwa]
    have := alloc_top (w.alloc (.cells #[.pointer (some ⟨hb, 0, none⟩), .slice ac (data.spots 0 0 ks).length cap] 109)) (.cells #[.int .i64 0, .int .i64 0, .string ⟨#[]⟩, .slice none 0 0] 34)
    rwa [World.size_alloc] at this
  have hsz : w.heap.size + 2 = wa.heap.size := SA.out.symm
  have b0 : wa.cell? ⟨w.heap.size, 0, none⟩ = some (.pointer (some ⟨hb, 0, none⟩)) := blkI (i := 0) XA.out rfl
  have b0n : wa.drew.cell? ⟨w.heap.size, 0, none⟩ = some (.pointer (some ⟨hb, 0, none⟩)) := b0
  have hcallD := blockK_no (w := wa.drew) (HA.out.same rfl) (x / 2) (by omega) (by omega) hat
  have hcallA := blockK_no (w := (wa.alloc (.cells #[.bool false, .int .i64 0, .int .i64 0] 158)).drew) ((HA.out.on ((Below.refl _ _).alloc (Nat.le_refl _) _)).same rfl) (x / 2) (by omega) (by omega) hat
  clear h hcc hnm hnb
  go_enter Tryz.func54, Tryz.ntmps54
  go_wp2_with (first | (go_at_call 77; refine (isrefI_is hx).mono ?_; rintro e w' ⟨rfl, hxx⟩; subst w'))
  rw [← hwa]
  clear hwa
  go_region_held3 (fun X => X.cell? ⟨w.heap.size, 0, none⟩ = some (.pointer (some ⟨hb, 0, none⟩)))
    (first | with_reducible exact b0 | with_reducible exact b0n | with_reducible exact cellA b0 | with_reducible exact cellA b0n | (with_reducible refine cellS3 b0 ?_; omega) | exact cellA b0)
    (first
        | (go_at_call 80; first | (with_reducible refine (wordrefI_is _ _).mono ?_; rintro e w' ⟨rfl, hxx⟩; subst w'))
        | (go_at_call 79; with_reducible refine hcallD.mono ?_; rintro e w4 ⟨he, ho, hh⟩
           subst he
           obtain ⟨v7, hv7⟩ : ∃ v7 : Value, v7 = .slice none 0 0 := ⟨_, rfl⟩
           obtain ⟨kds, hkd⟩ : ∃ kds : List Int, kds = [] := ⟨_, rfl⟩
           have hrw : ∀ b, IRow w4 b v7 kds := fun b => by rw [hv7, hkd]; exact IRow.nil _ _
           have HO4 : Hid (Only (· = hb) wa w4) := (Only.refl _ wa).drew.trans ho
           replace b0 : w4.cell? ⟨w.heap.size, 0, none⟩ = some (.pointer (some ⟨hb, 0, none⟩)) := blkI (i := 0) ((HO4.out.block _ (by omega) (by omega)).trans XA.out) rfl
           have KD : Hid (TopK B hb hm wv W half base next M wa (w4.alloc (.cells #[.bool false, .int .i64 0, .int .i64 0] 158)) w4.heap.size false 0 0 v7 kds) := topk_a ho hh (hrw _)
           clear ho hh hrw)
        | (go_at_call 79; with_reducible refine hcallA.mono ?_; rintro e w4 ⟨he, ho, hh⟩
           subst he
           obtain ⟨v7, hv7⟩ : ∃ v7 : Value, v7 = .slice none 0 0 := ⟨_, rfl⟩
           obtain ⟨kds, hkd⟩ : ∃ kds : List Int, kds = [] := ⟨_, rfl⟩
           have hrw : ∀ b, IRow w4 b v7 kds := fun b => by rw [hv7, hkd]; exact IRow.nil _ _
           have HO4 : Hid (Only (· = hb) wa w4) := (((Only.refl _ wa).alloc _).drew).trans ho
           replace b0 : w4.cell? ⟨w.heap.size, 0, none⟩ = some (.pointer (some ⟨hb, 0, none⟩)) := blkI (i := 0) ((HO4.out.block _ (by omega) (by omega)).trans XA.out) rfl
           have yb : w4.heap[wa.heap.size]? = some (.cells #[.bool false, .int .i64 0, .int .i64 0] 158) := (ho.block _ (by show wa.heap.size < (wa.alloc _).heap.size; simp) (by omega)).trans (alloc_top _ _)
           have yb0 : w4.cell? ⟨wa.heap.size, 0, none⟩ = some (.bool false) := blkI (i := 0) yb rfl
           have yb1 : w4.cell? ⟨wa.heap.size, 1, none⟩ = some (.int .i64 0) := blkI (i := 1) yb rfl
           have yb2 : w4.cell? ⟨wa.heap.size, 2, none⟩ = some (.int .i64 0) := blkI (i := 2) yb rfl
           have ybf : ∀ o, w4.frozen? ⟨wa.heap.size, o, none⟩ = false := fun o => frzI yb
           clear yb
           have KD : Hid (TopK B hb hm wv W half base next M wa (((w4.setCell ⟨wa.heap.size, 0, none⟩ (.bool false)).setCell ⟨wa.heap.size, 1, none⟩ (.int .i64 0)).setCell ⟨wa.heap.size, 2, none⟩ (.int .i64 0)) wa.heap.size false 0 0 v7 kds) := topk_b (by omega) ho hh (hrw _)
           clear ho hh hrw))
  all_goals
    first
      | (revert KD; generalize (w4.alloc (.cells #[.bool false, .int .i64 0, .int .i64 0] 158)) = w5; generalize w4.heap.size = g7; intro KD; have chk : TopK B hb hm wv W half base next M wa w5 g7 false 0 0 v7 kds := KD.out; clear chk)
      | (revert KD; generalize (((w4.setCell ⟨wa.heap.size, 0, none⟩ (.bool false)).setCell ⟨wa.heap.size, 1, none⟩ (.int .i64 0)).setCell ⟨wa.heap.size, 2, none⟩ (.int .i64 0)) = w5; generalize wa.heap.size = g7; intro KD; have chk : TopK B hb hm wv W half base next M wa w5 g7 false 0 0 v7 kds := KD.out; clear chk)
    clear b0 b0n HO4 hcallD hcallA
    have R5 : Hid (w5.heap[w.heap.size + 1]? = some (.cells #[.int .i64 0, .int .i64 0, .string ⟨#[]⟩, .slice none 0 0] 34)) := (KD.out.only.block _ (by have := SA.out; omega) (by omega)).trans RA.out
    have X5 : Hid (w5.heap[w.heap.size]? = some (.cells #[.pointer (some ⟨hb, 0, none⟩), .slice ac (data.spots 0 0 ks).length cap] 109)) := (KD.out.only.block _ (by have := SA.out; omega) (by omega)).trans XA.out
    have O5 : Hid (Only (· = hb) w w5) := (Only.ofBelow BA.out).trans KD.out.only
    have HB : Hid (hb < w.heap.size ∧ hm < w.heap.size ∧ B ≤ w.heap.size) := by show _ ∧ _; omega
    have x1 : w5.cell? ⟨w.heap.size, 1, none⟩ = some (.slice ac (data.spots 0 0 ks).length cap) := blkI (i := 1) X5.out rfl
    have h0 : w5.cell? ⟨g7, 0, none⟩ = some (.bool false) := blkI (i := 0) KD.out.at_ rfl
    have h1 : w5.cell? ⟨g7, 1, none⟩ = some (.int .i64 0) := blkI (i := 1) KD.out.at_ rfl
    have h2 : w5.cell? ⟨g7, 2, none⟩ = some (.int .i64 0) := blkI (i := 2) KD.out.at_ rfl
    have r0 : w5.cell? ⟨w.heap.size + 1, 0, none⟩ = some (.int .i64 0) := blkI (i := 0) R5.out rfl
    have r1 : w5.cell? ⟨w.heap.size + 1, 1, none⟩ = some (.int .i64 0) := blkI (i := 1) R5.out rfl
    have r2 : w5.cell? ⟨w.heap.size + 1, 2, none⟩ = some (.string ⟨#[]⟩) := blkI (i := 2) R5.out rfl
    have r3 : w5.cell? ⟨w.heap.size + 1, 3, none⟩ = some (.slice none 0 0) := blkI (i := 3) R5.out rfl
    have fr : ∀ o, w5.frozen? ⟨w.heap.size + 1, o, none⟩ = false := fun o => frzI R5.out
    go_wp2
    refine bodyPost_ret (v := .tuple #[.agg #[.int .i64 0, .int .i64 0, .string ⟨#[]⟩, .slice none 0 0], .slice none 0 0, .bool false]) (by simp [results, Tryz.f54, go_sem, r0, r1, r2, r3]) rfl ?_
    refine top_end HB.out O5.out KD.out.held _ _ _ _ ?_ ?_
    · intro _; rfl
    · intro p kids hp; cases hp

set_option maxRecDepth 100000 in
set_option maxHeartbeats 8000000 in
/-- A function. -/
theorem top_atfun {B hb hm : Nat} {wv : Value} {W : List Int} {half base next : Nat} {M : List Bool} {w : World} (h : HH B hb hm wv W half base next 0 M w) (ks : List data.DataD) (lo : Nat) (cv : Value) (hc : data.CRow w lo cv (data.spots 0 0 ks)) (hcv : ∀ g, cv.ownBlock = some g → g ≠ hb) (htl : (data.spots 0 0 ks).length ≤ 1048576) (hnb : ∀ j (hj : j < (data.spots 0 0 ks).length), (data.spots 0 0 ks)[j].c.1.size ≤ 1048576) (x : Int) (hx1 : -9223372036854775808 ≤ x) (hx2 : x ≤ 9223372036854775807) (hx : decide (x % 2 = 0) = true) (z mn : Nat) (hz : x / 2 = (z : Int)) (hat : atB base next M (z : Int) = true) (hmn : (manyF (W.getD z 0)).toNat = mn) (hzm : z + mn < W.length) (hp0 : 0 ≤ W.getD z 0) (hf : funF (W.getD z 0) = true) :
    Calls Tryz.prog 54 #[.agg #[.pointer (some ⟨hb, 0, none⟩), cv], .int .i64 x] w fun e w' => TopOut B hb hm wv W half base next M w (some ((3, 0, ⟨#[]⟩), [])) e w' := by
  have hlo := h.lo
  have hlt := h.lt
  have hC : Hid (data.CRow w lo cv (data.spots 0 0 ks)) := hc
  obtain ⟨⟨ac, cap, rfl, hcc⟩, hnm⟩ := hc
  obtain ⟨wa, hwa⟩ : ∃ wa, wa = ((w.alloc (.cells #[.pointer (some ⟨hb, 0, none⟩), .slice ac (data.spots 0 0 ks).length cap] 109)).alloc (.cells #[.int .i64 0, .int .i64 0, .string ⟨#[]⟩, .slice none 0 0] 34)) := ⟨_, rfl⟩
  have BA : Hid (Below w.heap.size w wa) := by rw [hwa]; exact ((Below.refl _ _).alloc (Nat.le_refl _) _).alloc (by simp) _
  have HA : Hid (HH B hb hm wv W half base next 0 M wa) := h.on BA.out
  have SA : Hid (wa.heap.size = w.heap.size + 2) := by show _ = _; rw [hwa]; simp
  have XA : Hid (wa.heap[w.heap.size]? = some (.cells #[.pointer (some ⟨hb, 0, none⟩), .slice ac (data.spots 0 0 ks).length cap] 109)) := by show _ = _; rw [hwa]; exact (Below.heap_alloc _ _ _ (by simp)).trans (alloc_top _ _)
  have RA : Hid (wa.heap[w.heap.size + 1]? = some (.cells #[.int .i64 0, .int .i64 0, .string ⟨#[]⟩, .slice none 0 0] 34)) := by
    show _ = _
    rw [hwa]
    have := alloc_top (w.alloc (.cells #[.pointer (some ⟨hb, 0, none⟩), .slice ac (data.spots 0 0 ks).length cap] 109)) (.cells #[.int .i64 0, .int .i64 0, .string ⟨#[]⟩, .slice none 0 0] 34)
    rwa [World.size_alloc] at this
  have hsz : w.heap.size + 2 = wa.heap.size := SA.out.symm
  have b0 : wa.cell? ⟨w.heap.size, 0, none⟩ = some (.pointer (some ⟨hb, 0, none⟩)) := blkI (i := 0) XA.out rfl
  have b0n : wa.drew.cell? ⟨w.heap.size, 0, none⟩ = some (.pointer (some ⟨hb, 0, none⟩)) := b0
  have hwr : ∀ W' : World, Calls Tryz.prog 80 #[.int .i64 x] W' fun e w' => e = .returned (.int .i64 (z : Int)) ∧ w' = W' := fun W' => by rw [← hz]; exact wordrefI_is x W'
  obtain ⟨X, hX⟩ : ∃ X, X = W.getD z 0 := ⟨_, rfl⟩
  have hcallD := blockK_yes (w := wa.drew) (HA.out.same rfl) z mn hat hmn hzm
  have hcallA := blockK_yes (w := (wa.alloc (.cells #[.bool false, .int .i64 0, .int .i64 0] 158)).drew) ((HA.out.on ((Below.refl _ _).alloc (Nat.le_refl _) _)).same rfl) z mn hat hmn hzm
  rw [← hX] at hcallD hcallA
  rw [← hX] at hf
  rw [hf] at hcallD hcallA
  clear h hcc hnm hnb hX hz hmn hzm hat hp0
  go_enter Tryz.func54, Tryz.ntmps54
  go_wp2_with (first | (go_at_call 77; refine (isrefI_is hx).mono ?_; rintro e w' ⟨rfl, hxx⟩; subst w'))
  rw [← hwa]
  clear hwa
  go_region_held3 (fun X => X.cell? ⟨w.heap.size, 0, none⟩ = some (.pointer (some ⟨hb, 0, none⟩)))
    (first | with_reducible exact b0 | with_reducible exact b0n | with_reducible exact cellA b0 | with_reducible exact cellA b0n | (with_reducible refine cellS3 b0 ?_; omega) | exact cellA b0)
    (first
        | (go_at_call 80; first | (with_reducible refine (hwr _).mono ?_; rintro e w' ⟨rfl, hxx⟩; subst w'))
        | (go_at_call 79; with_reducible refine hcallD.mono ?_; rintro e w4 ⟨he, ho, hh⟩
           obtain ⟨v7, rfl, hrw⟩ := he
           obtain ⟨kds, hkd⟩ : ∃ kds : List Int, kds = (W.drop (z + 1)).take mn := ⟨_, rfl⟩
           rw [← hkd] at hrw
           have HK : Hid (kds = (W.drop (z + 1)).take mn) := hkd
           clear hkd
           have HO4 : Hid (Only (· = hb) wa w4) := (Only.refl _ wa).drew.trans ho
           replace b0 : w4.cell? ⟨w.heap.size, 0, none⟩ = some (.pointer (some ⟨hb, 0, none⟩)) := blkI (i := 0) ((HO4.out.block _ (by omega) (by omega)).trans XA.out) rfl
           have KD : Hid (TopK B hb hm wv W half base next M wa (w4.alloc (.cells #[.bool true, .int .i64 (tagS X), .int .i64 (mn : Int)] 158)) w4.heap.size true (tagS X) (mn : Int) v7 kds) := topk_a ho hh hrw
           clear ho hh hrw)
        | (go_at_call 79; with_reducible refine hcallA.mono ?_; rintro e w4 ⟨he, ho, hh⟩
           obtain ⟨v7, rfl, hrw⟩ := he
           obtain ⟨kds, hkd⟩ : ∃ kds : List Int, kds = (W.drop (z + 1)).take mn := ⟨_, rfl⟩
           rw [← hkd] at hrw
           have HK : Hid (kds = (W.drop (z + 1)).take mn) := hkd
           clear hkd
           have HO4 : Hid (Only (· = hb) wa w4) := (((Only.refl _ wa).alloc _).drew).trans ho
           replace b0 : w4.cell? ⟨w.heap.size, 0, none⟩ = some (.pointer (some ⟨hb, 0, none⟩)) := blkI (i := 0) ((HO4.out.block _ (by omega) (by omega)).trans XA.out) rfl
           have yb : w4.heap[wa.heap.size]? = some (.cells #[.bool false, .int .i64 0, .int .i64 0] 158) := (ho.block _ (by show wa.heap.size < (wa.alloc _).heap.size; simp) (by omega)).trans (alloc_top _ _)
           have yb0 : w4.cell? ⟨wa.heap.size, 0, none⟩ = some (.bool false) := blkI (i := 0) yb rfl
           have yb1 : w4.cell? ⟨wa.heap.size, 1, none⟩ = some (.int .i64 0) := blkI (i := 1) yb rfl
           have yb2 : w4.cell? ⟨wa.heap.size, 2, none⟩ = some (.int .i64 0) := blkI (i := 2) yb rfl
           have ybf : ∀ o, w4.frozen? ⟨wa.heap.size, o, none⟩ = false := fun o => frzI yb
           clear yb
           have KD : Hid (TopK B hb hm wv W half base next M wa (((w4.setCell ⟨wa.heap.size, 0, none⟩ (.bool true)).setCell ⟨wa.heap.size, 1, none⟩ (.int .i64 (tagS X))).setCell ⟨wa.heap.size, 2, none⟩ (.int .i64 (mn : Int))) wa.heap.size true (tagS X) (mn : Int) v7 kds) := topk_b (by omega) ho hh hrw
           clear ho hh hrw))
  all_goals
    first
      | (revert KD; generalize (w4.alloc (.cells #[.bool true, .int .i64 (tagS X), .int .i64 (mn : Int)] 158)) = w5; generalize w4.heap.size = g7; intro KD; have chk : TopK B hb hm wv W half base next M wa w5 g7 true (tagS X) (mn : Int) v7 kds := KD.out; clear chk)
      | (revert KD; generalize (((w4.setCell ⟨wa.heap.size, 0, none⟩ (.bool true)).setCell ⟨wa.heap.size, 1, none⟩ (.int .i64 (tagS X))).setCell ⟨wa.heap.size, 2, none⟩ (.int .i64 (mn : Int))) = w5; generalize wa.heap.size = g7; intro KD; have chk : TopK B hb hm wv W half base next M wa w5 g7 true (tagS X) (mn : Int) v7 kds := KD.out; clear chk)
    clear b0 b0n HO4 hcallD hcallA
    have R5 : Hid (w5.heap[w.heap.size + 1]? = some (.cells #[.int .i64 0, .int .i64 0, .string ⟨#[]⟩, .slice none 0 0] 34)) := (KD.out.only.block _ (by have := SA.out; omega) (by omega)).trans RA.out
    have X5 : Hid (w5.heap[w.heap.size]? = some (.cells #[.pointer (some ⟨hb, 0, none⟩), .slice ac (data.spots 0 0 ks).length cap] 109)) := (KD.out.only.block _ (by have := SA.out; omega) (by omega)).trans XA.out
    have O5 : Hid (Only (· = hb) w w5) := (Only.ofBelow BA.out).trans KD.out.only
    have HB : Hid (hb < w.heap.size ∧ hm < w.heap.size ∧ B ≤ w.heap.size) := by show _ ∧ _; omega
    have x1 : w5.cell? ⟨w.heap.size, 1, none⟩ = some (.slice ac (data.spots 0 0 ks).length cap) := blkI (i := 1) X5.out rfl
    have h0 : w5.cell? ⟨g7, 0, none⟩ = some (.bool true) := blkI (i := 0) KD.out.at_ rfl
    have h1 : w5.cell? ⟨g7, 1, none⟩ = some (.int .i64 (tagS X)) := blkI (i := 1) KD.out.at_ rfl
    have h2 : w5.cell? ⟨g7, 2, none⟩ = some (.int .i64 (mn : Int)) := blkI (i := 2) KD.out.at_ rfl
    have r0 : w5.cell? ⟨w.heap.size + 1, 0, none⟩ = some (.int .i64 0) := blkI (i := 0) R5.out rfl
    have r1 : w5.cell? ⟨w.heap.size + 1, 1, none⟩ = some (.int .i64 0) := blkI (i := 1) R5.out rfl
    have r2 : w5.cell? ⟨w.heap.size + 1, 2, none⟩ = some (.string ⟨#[]⟩) := blkI (i := 2) R5.out rfl
    have r3 : w5.cell? ⟨w.heap.size + 1, 3, none⟩ = some (.slice none 0 0) := blkI (i := 3) R5.out rfl
    have fr : ∀ o, w5.frozen? ⟨w.heap.size + 1, o, none⟩ = false := fun o => frzI R5.out
    go_wp2
    refine bodyPost_ret (v := .tuple #[.agg #[.int .i64 3, .int .i64 0, .string ⟨#[]⟩, .slice none 0 0], .slice none 0 0, .bool true]) (by simp [results, Tryz.f54, go_sem, r0, r1, r2, r3]) rfl ?_
    refine top_end HB.out O5.out KD.out.held _ _ _ _ ?_ ?_
    · intro hn; cases hn
    · intro p kids hp
      simp only [Option.some.injEq, Prod.mk.injEq] at hp
      obtain ⟨rfl, rfl⟩ := hp
      exact ⟨by simp [ByteArray.size], _, rfl, IRow.nil _ _⟩

set_option maxRecDepth 100000 in
set_option maxHeartbeats 8000000 in
/-- A tag of no con. -/
theorem top_atbad {B hb hm : Nat} {wv : Value} {W : List Int} {half base next : Nat} {M : List Bool} {w : World} (h : HH B hb hm wv W half base next 0 M w) (ks : List data.DataD) (lo : Nat) (cv : Value) (hc : data.CRow w lo cv (data.spots 0 0 ks)) (hcv : ∀ g, cv.ownBlock = some g → g ≠ hb) (htl : (data.spots 0 0 ks).length ≤ 1048576) (hnb : ∀ j (hj : j < (data.spots 0 0 ks).length), (data.spots 0 0 ks)[j].c.1.size ≤ 1048576) (x : Int) (hx1 : -9223372036854775808 ≤ x) (hx2 : x ≤ 9223372036854775807) (hx : decide (x % 2 = 0) = true) (z mn : Nat) (hz : x / 2 = (z : Int)) (hat : atB base next M (z : Int) = true) (hmn : (manyF (W.getD z 0)).toNat = mn) (hzm : z + mn < W.length) (hp0 : 0 ≤ W.getD z 0) (hf : funF (W.getD z 0) = false) (hcn : conAt ks (tagF (W.getD z 0)) = none) :
    Calls Tryz.prog 54 #[.agg #[.pointer (some ⟨hb, 0, none⟩), cv], .int .i64 x] w fun e w' => TopOut B hb hm wv W half base next M w (none) e w' := by
  have hlo := h.lo
  have hlt := h.lt
  have hC : Hid (data.CRow w lo cv (data.spots 0 0 ks)) := hc
  obtain ⟨⟨ac, cap, rfl, hcc⟩, hnm⟩ := hc
  obtain ⟨wa, hwa⟩ : ∃ wa, wa = ((w.alloc (.cells #[.pointer (some ⟨hb, 0, none⟩), .slice ac (data.spots 0 0 ks).length cap] 109)).alloc (.cells #[.int .i64 0, .int .i64 0, .string ⟨#[]⟩, .slice none 0 0] 34)) := ⟨_, rfl⟩
  have BA : Hid (Below w.heap.size w wa) := by rw [hwa]; exact ((Below.refl _ _).alloc (Nat.le_refl _) _).alloc (by simp) _
  have HA : Hid (HH B hb hm wv W half base next 0 M wa) := h.on BA.out
  have SA : Hid (wa.heap.size = w.heap.size + 2) := by show _ = _; rw [hwa]; simp
  have XA : Hid (wa.heap[w.heap.size]? = some (.cells #[.pointer (some ⟨hb, 0, none⟩), .slice ac (data.spots 0 0 ks).length cap] 109)) := by show _ = _; rw [hwa]; exact (Below.heap_alloc _ _ _ (by simp)).trans (alloc_top _ _)
  have RA : Hid (wa.heap[w.heap.size + 1]? = some (.cells #[.int .i64 0, .int .i64 0, .string ⟨#[]⟩, .slice none 0 0] 34)) := by
    show _ = _
    rw [hwa]
    have := alloc_top (w.alloc (.cells #[.pointer (some ⟨hb, 0, none⟩), .slice ac (data.spots 0 0 ks).length cap] 109)) (.cells #[.int .i64 0, .int .i64 0, .string ⟨#[]⟩, .slice none 0 0] 34)
    rwa [World.size_alloc] at this
  have hsz : w.heap.size + 2 = wa.heap.size := SA.out.symm
  have b0 : wa.cell? ⟨w.heap.size, 0, none⟩ = some (.pointer (some ⟨hb, 0, none⟩)) := blkI (i := 0) XA.out rfl
  have b0n : wa.drew.cell? ⟨w.heap.size, 0, none⟩ = some (.pointer (some ⟨hb, 0, none⟩)) := b0
  have hwr : ∀ W' : World, Calls Tryz.prog 80 #[.int .i64 x] W' fun e w' => e = .returned (.int .i64 (z : Int)) ∧ w' = W' := fun W' => by rw [← hz]; exact wordrefI_is x W'
  obtain ⟨X, hX⟩ : ∃ X, X = W.getD z 0 := ⟨_, rfl⟩
  have hcallD := blockK_yes (w := wa.drew) (HA.out.same rfl) z mn hat hmn hzm
  have hcallA := blockK_yes (w := (wa.alloc (.cells #[.bool false, .int .i64 0, .int .i64 0] 158)).drew) ((HA.out.on ((Below.refl _ _).alloc (Nat.le_refl _) _)).same rfl) z mn hat hmn hzm
  rw [← hX] at hcallD hcallA
  have htag : tagS X < 0 ∨ ((data.spots 0 0 ks).length : Int) ≤ tagS X := by
    rw [← tag_pos (by rw [hX]; exact hp0), hX]
    rcases Int.lt_or_le (tagF (W.getD z 0)) 0 with q | q
    · exact .inl q
    · rcases Int.lt_or_le (tagF (W.getD z 0)) ((data.spots 0 0 ks).length : Int) with q2 | q2
      · obtain ⟨n, hn⟩ : ∃ n : Nat, tagF (W.getD z 0) = n := ⟨(tagF (W.getD z 0)).toNat, by omega⟩
        rw [hn, con_get (by omega)] at hcn
        cases hcn
      · exact .inr q2
  have hbel : Hid (∀ W' : World, Calls Tryz.prog 81 #[.int .i64 (tagS X), .int .i64 ((data.spots 0 0 ks).length : Int)] W' fun e w' => e = .returned (.bool false) ∧ w' = W') := fun W' => bel_is (f := ((data.spots 0 0 ks).length : Int) - 1) (by unfold inB; rcases htag with q | q <;> simp <;> omega) (by omega)
  rw [← hX] at hf
  rw [hf] at hcallD hcallA
  clear h hcc hnm hnb hX hz hmn hzm hat hp0 hcn htag
  go_enter Tryz.func54, Tryz.ntmps54
  go_wp2_with (first | (go_at_call 77; refine (isrefI_is hx).mono ?_; rintro e w' ⟨rfl, hxx⟩; subst w'))
  rw [← hwa]
  clear hwa
  go_region_held3 (fun X => X.cell? ⟨w.heap.size, 0, none⟩ = some (.pointer (some ⟨hb, 0, none⟩)))
    (first | with_reducible exact b0 | with_reducible exact b0n | with_reducible exact cellA b0 | with_reducible exact cellA b0n | (with_reducible refine cellS3 b0 ?_; omega) | exact cellA b0)
    (first
        | (go_at_call 80; first | (with_reducible refine (hwr _).mono ?_; rintro e w' ⟨rfl, hxx⟩; subst w'))
        | (go_at_call 79; with_reducible refine hcallD.mono ?_; rintro e w4 ⟨he, ho, hh⟩
           obtain ⟨v7, rfl, hrw⟩ := he
           obtain ⟨kds, hkd⟩ : ∃ kds : List Int, kds = (W.drop (z + 1)).take mn := ⟨_, rfl⟩
           rw [← hkd] at hrw
           have HK : Hid (kds = (W.drop (z + 1)).take mn) := hkd
           clear hkd
           have HO4 : Hid (Only (· = hb) wa w4) := (Only.refl _ wa).drew.trans ho
           replace b0 : w4.cell? ⟨w.heap.size, 0, none⟩ = some (.pointer (some ⟨hb, 0, none⟩)) := blkI (i := 0) ((HO4.out.block _ (by omega) (by omega)).trans XA.out) rfl
           have KD : Hid (TopK B hb hm wv W half base next M wa (w4.alloc (.cells #[.bool false, .int .i64 (tagS X), .int .i64 (mn : Int)] 158)) w4.heap.size false (tagS X) (mn : Int) v7 kds) := topk_a ho hh hrw
           clear ho hh hrw)
        | (go_at_call 79; with_reducible refine hcallA.mono ?_; rintro e w4 ⟨he, ho, hh⟩
           obtain ⟨v7, rfl, hrw⟩ := he
           obtain ⟨kds, hkd⟩ : ∃ kds : List Int, kds = (W.drop (z + 1)).take mn := ⟨_, rfl⟩
           rw [← hkd] at hrw
           have HK : Hid (kds = (W.drop (z + 1)).take mn) := hkd
           clear hkd
           have HO4 : Hid (Only (· = hb) wa w4) := (((Only.refl _ wa).alloc _).drew).trans ho
           replace b0 : w4.cell? ⟨w.heap.size, 0, none⟩ = some (.pointer (some ⟨hb, 0, none⟩)) := blkI (i := 0) ((HO4.out.block _ (by omega) (by omega)).trans XA.out) rfl
           have yb : w4.heap[wa.heap.size]? = some (.cells #[.bool false, .int .i64 0, .int .i64 0] 158) := (ho.block _ (by show wa.heap.size < (wa.alloc _).heap.size; simp) (by omega)).trans (alloc_top _ _)
           have yb0 : w4.cell? ⟨wa.heap.size, 0, none⟩ = some (.bool false) := blkI (i := 0) yb rfl
           have yb1 : w4.cell? ⟨wa.heap.size, 1, none⟩ = some (.int .i64 0) := blkI (i := 1) yb rfl
           have yb2 : w4.cell? ⟨wa.heap.size, 2, none⟩ = some (.int .i64 0) := blkI (i := 2) yb rfl
           have ybf : ∀ o, w4.frozen? ⟨wa.heap.size, o, none⟩ = false := fun o => frzI yb
           clear yb
           have KD : Hid (TopK B hb hm wv W half base next M wa (((w4.setCell ⟨wa.heap.size, 0, none⟩ (.bool false)).setCell ⟨wa.heap.size, 1, none⟩ (.int .i64 (tagS X))).setCell ⟨wa.heap.size, 2, none⟩ (.int .i64 (mn : Int))) wa.heap.size false (tagS X) (mn : Int) v7 kds) := topk_b (by omega) ho hh hrw
           clear ho hh hrw))
  all_goals
    first
      | (revert KD; generalize (w4.alloc (.cells #[.bool false, .int .i64 (tagS X), .int .i64 (mn : Int)] 158)) = w5; generalize w4.heap.size = g7; intro KD; have chk : TopK B hb hm wv W half base next M wa w5 g7 false (tagS X) (mn : Int) v7 kds := KD.out; clear chk)
      | (revert KD; generalize (((w4.setCell ⟨wa.heap.size, 0, none⟩ (.bool false)).setCell ⟨wa.heap.size, 1, none⟩ (.int .i64 (tagS X))).setCell ⟨wa.heap.size, 2, none⟩ (.int .i64 (mn : Int))) = w5; generalize wa.heap.size = g7; intro KD; have chk : TopK B hb hm wv W half base next M wa w5 g7 false (tagS X) (mn : Int) v7 kds := KD.out; clear chk)
    clear b0 b0n HO4 hcallD hcallA
    have R5 : Hid (w5.heap[w.heap.size + 1]? = some (.cells #[.int .i64 0, .int .i64 0, .string ⟨#[]⟩, .slice none 0 0] 34)) := (KD.out.only.block _ (by have := SA.out; omega) (by omega)).trans RA.out
    have X5 : Hid (w5.heap[w.heap.size]? = some (.cells #[.pointer (some ⟨hb, 0, none⟩), .slice ac (data.spots 0 0 ks).length cap] 109)) := (KD.out.only.block _ (by have := SA.out; omega) (by omega)).trans XA.out
    have O5 : Hid (Only (· = hb) w w5) := (Only.ofBelow BA.out).trans KD.out.only
    have HB : Hid (hb < w.heap.size ∧ hm < w.heap.size ∧ B ≤ w.heap.size) := by show _ ∧ _; omega
    have x1 : w5.cell? ⟨w.heap.size, 1, none⟩ = some (.slice ac (data.spots 0 0 ks).length cap) := blkI (i := 1) X5.out rfl
    have h0 : w5.cell? ⟨g7, 0, none⟩ = some (.bool false) := blkI (i := 0) KD.out.at_ rfl
    have h1 : w5.cell? ⟨g7, 1, none⟩ = some (.int .i64 (tagS X)) := blkI (i := 1) KD.out.at_ rfl
    have h2 : w5.cell? ⟨g7, 2, none⟩ = some (.int .i64 (mn : Int)) := blkI (i := 2) KD.out.at_ rfl
    have r0 : w5.cell? ⟨w.heap.size + 1, 0, none⟩ = some (.int .i64 0) := blkI (i := 0) R5.out rfl
    have r1 : w5.cell? ⟨w.heap.size + 1, 1, none⟩ = some (.int .i64 0) := blkI (i := 1) R5.out rfl
    have r2 : w5.cell? ⟨w.heap.size + 1, 2, none⟩ = some (.string ⟨#[]⟩) := blkI (i := 2) R5.out rfl
    have r3 : w5.cell? ⟨w.heap.size + 1, 3, none⟩ = some (.slice none 0 0) := blkI (i := 3) R5.out rfl
    have fr : ∀ o, w5.frozen? ⟨w.heap.size + 1, o, none⟩ = false := fun o => frzI R5.out
    go_wp2
    go_quiet ((go_at_call 81; exact Calls.quiet_of_same (hbel.out _)))
    go_wp2
    refine bodyPost_ret (v := .tuple #[.agg #[.int .i64 0, .int .i64 0, .string ⟨#[]⟩, .slice none 0 0], .slice none 0 0, .bool false]) (by simp [results, Tryz.f54, go_sem, r0, r1, r2, r3]) rfl ?_
    refine top_end HB.out (O5.out.drewN _) (KD.out.held.drewN _) _ _ _ _ ?_ ?_
    · intro _; rfl
    · intro p kids hp; cases hp

set_option maxRecDepth 100000 in
set_option maxHeartbeats 8000000 in
/-- Other than its kids. -/
theorem top_atother {B hb hm : Nat} {wv : Value} {W : List Int} {half base next : Nat} {M : List Bool} {w : World} (h : HH B hb hm wv W half base next 0 M w) (ks : List data.DataD) (lo : Nat) (cv : Value) (hc : data.CRow w lo cv (data.spots 0 0 ks)) (hcv : ∀ g, cv.ownBlock = some g → g ≠ hb) (htl : (data.spots 0 0 ks).length ≤ 1048576) (hnb : ∀ j (hj : j < (data.spots 0 0 ks).length), (data.spots 0 0 ks)[j].c.1.size ≤ 1048576) (x : Int) (hx1 : -9223372036854775808 ≤ x) (hx2 : x ≤ 9223372036854775807) (hx : decide (x % 2 = 0) = true) (z mn : Nat) (hz : x / 2 = (z : Int)) (hat : atB base next M (z : Int) = true) (hmn : (manyF (W.getD z 0)).toNat = mn) (hzm : z + mn < W.length) (hp0 : 0 ≤ W.getD z 0) (hf : funF (W.getD z 0) = false) (s : data.Spot) (hcn : conAt ks (tagF (W.getD z 0)) = some s) (hm5 : ¬ (s.c.2.length : Int) = (mn : Int)) :
    Calls Tryz.prog 54 #[.agg #[.pointer (some ⟨hb, 0, none⟩), cv], .int .i64 x] w fun e w' => TopOut B hb hm wv W half base next M w (none) e w' := by
  have hlo := h.lo
  have hlt := h.lt
  have hC : Hid (data.CRow w lo cv (data.spots 0 0 ks)) := hc
  obtain ⟨⟨ac, cap, rfl, hcc⟩, hnm⟩ := hc
  obtain ⟨wa, hwa⟩ : ∃ wa, wa = ((w.alloc (.cells #[.pointer (some ⟨hb, 0, none⟩), .slice ac (data.spots 0 0 ks).length cap] 109)).alloc (.cells #[.int .i64 0, .int .i64 0, .string ⟨#[]⟩, .slice none 0 0] 34)) := ⟨_, rfl⟩
  have BA : Hid (Below w.heap.size w wa) := by rw [hwa]; exact ((Below.refl _ _).alloc (Nat.le_refl _) _).alloc (by simp) _
  have HA : Hid (HH B hb hm wv W half base next 0 M wa) := h.on BA.out
  have SA : Hid (wa.heap.size = w.heap.size + 2) := by show _ = _; rw [hwa]; simp
  have XA : Hid (wa.heap[w.heap.size]? = some (.cells #[.pointer (some ⟨hb, 0, none⟩), .slice ac (data.spots 0 0 ks).length cap] 109)) := by show _ = _; rw [hwa]; exact (Below.heap_alloc _ _ _ (by simp)).trans (alloc_top _ _)
  have RA : Hid (wa.heap[w.heap.size + 1]? = some (.cells #[.int .i64 0, .int .i64 0, .string ⟨#[]⟩, .slice none 0 0] 34)) := by
    show _ = _
    rw [hwa]
    have := alloc_top (w.alloc (.cells #[.pointer (some ⟨hb, 0, none⟩), .slice ac (data.spots 0 0 ks).length cap] 109)) (.cells #[.int .i64 0, .int .i64 0, .string ⟨#[]⟩, .slice none 0 0] 34)
    rwa [World.size_alloc] at this
  have hsz : w.heap.size + 2 = wa.heap.size := SA.out.symm
  have b0 : wa.cell? ⟨w.heap.size, 0, none⟩ = some (.pointer (some ⟨hb, 0, none⟩)) := blkI (i := 0) XA.out rfl
  have b0n : wa.drew.cell? ⟨w.heap.size, 0, none⟩ = some (.pointer (some ⟨hb, 0, none⟩)) := b0
  have hwr : ∀ W' : World, Calls Tryz.prog 80 #[.int .i64 x] W' fun e w' => e = .returned (.int .i64 (z : Int)) ∧ w' = W' := fun W' => by rw [← hz]; exact wordrefI_is x W'
  obtain ⟨X, hX⟩ : ∃ X, X = W.getD z 0 := ⟨_, rfl⟩
  have hcallD := blockK_yes (w := wa.drew) (HA.out.same rfl) z mn hat hmn hzm
  have hcallA := blockK_yes (w := (wa.alloc (.cells #[.bool false, .int .i64 0, .int .i64 0] 158)).drew) ((HA.out.on ((Below.refl _ _).alloc (Nat.le_refl _) _)).same rfl) z mn hat hmn hzm
  rw [← hX] at hcallD hcallA
  obtain ⟨n, hn⟩ : ∃ n : Nat, tagF (W.getD z 0) = (n : Int) ∧ ∃ hl : n < (data.spots 0 0 ks).length, s = (data.spots 0 0 ks)[n] := by
    by_cases q : tagF (W.getD z 0) < 0 ∨ ((data.spots 0 0 ks).length : Int) ≤ tagF (W.getD z 0)
    · rw [con_out q] at hcn; cases hcn
    · refine ⟨(tagF (W.getD z 0)).toNat, by omega, by omega, ?_⟩
      have e : tagF (W.getD z 0) = ((tagF (W.getD z 0)).toNat : Int) := by omega
      rw [e, con_get (by omega)] at hcn
      exact (Option.some.inj hcn).symm
  obtain ⟨hnt, hnl, rfl⟩ := hn
  have htg : tagS X = (n : Int) := by rw [← tag_pos (by rw [hX]; exact hp0), hX]; exact hnt
  rw [htg] at hcallD hcallA
  obtain ⟨gc, rfl, hg1, hg2, hc1, a', c', hc2⟩ := hcc n hnl
  have HGC : Hid (gc < w.heap.size ∧ gc ≠ hb) := ⟨hg2, hcv gc rfl⟩
  have nI : (n : Int) < ((data.spots 0 0 ks).length : Int) := by omega
  have n0 : (0 : Int) ≤ (n : Int) := by omega
  have hbel : Hid (∀ W' : World, Calls Tryz.prog 81 #[.int .i64 (n : Int), .int .i64 ((data.spots 0 0 ks).length : Int)] W' fun e w' => e = .returned (.bool true) ∧ w' = W') := fun W' => bel_is (f := ((data.spots 0 0 ks).length : Int) - 1) (by unfold inB; simp; omega) (by omega)
  obtain ⟨nm, hnm'⟩ : ∃ nm, nm = (data.spots 0 0 ks)[n].c.1 := ⟨_, rfl⟩
  obtain ⟨al, hal⟩ : ∃ al, al = (data.spots 0 0 ks)[n].c.2.length := ⟨_, rfl⟩
  have HNM : Hid (nm.size ≤ maxLen) := by show _ ≤ _; rw [hnm']; exact hnm n hnl
  rw [← hnm'] at hc1
  rw [← hal] at hc2
  have tm : ((al : Int) != (mn : Int)) = true := by rw [hal]; simpa using hm5
  rw [← hX] at hf
  rw [hf] at hcallD hcallA
  clear h hcc hnm hnb hX hz hmn hzm hat hp0 hcn htg hnt hnm' hal hm5
  go_enter Tryz.func54, Tryz.ntmps54
  go_wp2_with (first | (go_at_call 77; refine (isrefI_is hx).mono ?_; rintro e w' ⟨rfl, hxx⟩; subst w'))
  rw [← hwa]
  clear hwa
  go_region_held3 (fun X => X.cell? ⟨w.heap.size, 0, none⟩ = some (.pointer (some ⟨hb, 0, none⟩)))
    (first | with_reducible exact b0 | with_reducible exact b0n | with_reducible exact cellA b0 | with_reducible exact cellA b0n | (with_reducible refine cellS3 b0 ?_; omega) | exact cellA b0)
    (first
        | (go_at_call 80; first | (with_reducible refine (hwr _).mono ?_; rintro e w' ⟨rfl, hxx⟩; subst w'))
        | (go_at_call 79; with_reducible refine hcallD.mono ?_; rintro e w4 ⟨he, ho, hh⟩
           obtain ⟨v7, rfl, hrw⟩ := he
           obtain ⟨kds, hkd⟩ : ∃ kds : List Int, kds = (W.drop (z + 1)).take mn := ⟨_, rfl⟩
           rw [← hkd] at hrw
           have HK : Hid (kds = (W.drop (z + 1)).take mn) := hkd
           clear hkd
           have HO4 : Hid (Only (· = hb) wa w4) := (Only.refl _ wa).drew.trans ho
           replace b0 : w4.cell? ⟨w.heap.size, 0, none⟩ = some (.pointer (some ⟨hb, 0, none⟩)) := blkI (i := 0) ((HO4.out.block _ (by omega) (by omega)).trans XA.out) rfl
           have KD : Hid (TopK B hb hm wv W half base next M wa (w4.alloc (.cells #[.bool false, .int .i64 (n : Int), .int .i64 (mn : Int)] 158)) w4.heap.size false (n : Int) (mn : Int) v7 kds) := topk_a ho hh hrw
           clear ho hh hrw)
        | (go_at_call 79; with_reducible refine hcallA.mono ?_; rintro e w4 ⟨he, ho, hh⟩
           obtain ⟨v7, rfl, hrw⟩ := he
           obtain ⟨kds, hkd⟩ : ∃ kds : List Int, kds = (W.drop (z + 1)).take mn := ⟨_, rfl⟩
           rw [← hkd] at hrw
           have HK : Hid (kds = (W.drop (z + 1)).take mn) := hkd
           clear hkd
           have HO4 : Hid (Only (· = hb) wa w4) := (((Only.refl _ wa).alloc _).drew).trans ho
           replace b0 : w4.cell? ⟨w.heap.size, 0, none⟩ = some (.pointer (some ⟨hb, 0, none⟩)) := blkI (i := 0) ((HO4.out.block _ (by omega) (by omega)).trans XA.out) rfl
           have yb : w4.heap[wa.heap.size]? = some (.cells #[.bool false, .int .i64 0, .int .i64 0] 158) := (ho.block _ (by show wa.heap.size < (wa.alloc _).heap.size; simp) (by omega)).trans (alloc_top _ _)
           have yb0 : w4.cell? ⟨wa.heap.size, 0, none⟩ = some (.bool false) := blkI (i := 0) yb rfl
           have yb1 : w4.cell? ⟨wa.heap.size, 1, none⟩ = some (.int .i64 0) := blkI (i := 1) yb rfl
           have yb2 : w4.cell? ⟨wa.heap.size, 2, none⟩ = some (.int .i64 0) := blkI (i := 2) yb rfl
           have ybf : ∀ o, w4.frozen? ⟨wa.heap.size, o, none⟩ = false := fun o => frzI yb
           clear yb
           have KD : Hid (TopK B hb hm wv W half base next M wa (((w4.setCell ⟨wa.heap.size, 0, none⟩ (.bool false)).setCell ⟨wa.heap.size, 1, none⟩ (.int .i64 (n : Int))).setCell ⟨wa.heap.size, 2, none⟩ (.int .i64 (mn : Int))) wa.heap.size false (n : Int) (mn : Int) v7 kds) := topk_b (by omega) ho hh hrw
           clear ho hh hrw))
  all_goals
    first
      | (revert KD; generalize (w4.alloc (.cells #[.bool false, .int .i64 (n : Int), .int .i64 (mn : Int)] 158)) = w5; generalize w4.heap.size = g7; intro KD; have chk : TopK B hb hm wv W half base next M wa w5 g7 false (n : Int) (mn : Int) v7 kds := KD.out; clear chk)
      | (revert KD; generalize (((w4.setCell ⟨wa.heap.size, 0, none⟩ (.bool false)).setCell ⟨wa.heap.size, 1, none⟩ (.int .i64 (n : Int))).setCell ⟨wa.heap.size, 2, none⟩ (.int .i64 (mn : Int))) = w5; generalize wa.heap.size = g7; intro KD; have chk : TopK B hb hm wv W half base next M wa w5 g7 false (n : Int) (mn : Int) v7 kds := KD.out; clear chk)
    clear b0 b0n HO4 hcallD hcallA
    have R5 : Hid (w5.heap[w.heap.size + 1]? = some (.cells #[.int .i64 0, .int .i64 0, .string ⟨#[]⟩, .slice none 0 0] 34)) := (KD.out.only.block _ (by have := SA.out; omega) (by omega)).trans RA.out
    have X5 : Hid (w5.heap[w.heap.size]? = some (.cells #[.pointer (some ⟨hb, 0, none⟩), .slice (some ⟨gc, 0, none⟩) (data.spots 0 0 ks).length cap] 109)) := (KD.out.only.block _ (by have := SA.out; omega) (by omega)).trans XA.out
    have O5 : Hid (Only (· = hb) w w5) := (Only.ofBelow BA.out).trans KD.out.only
    have HB : Hid (hb < w.heap.size ∧ hm < w.heap.size ∧ B ≤ w.heap.size) := by show _ ∧ _; omega
    have x1 : w5.cell? ⟨w.heap.size, 1, none⟩ = some (.slice (some ⟨gc, 0, none⟩) (data.spots 0 0 ks).length cap) := blkI (i := 1) X5.out rfl
    have h0 : w5.cell? ⟨g7, 0, none⟩ = some (.bool false) := blkI (i := 0) KD.out.at_ rfl
    have h1 : w5.cell? ⟨g7, 1, none⟩ = some (.int .i64 (n : Int)) := blkI (i := 1) KD.out.at_ rfl
    have h2 : w5.cell? ⟨g7, 2, none⟩ = some (.int .i64 (mn : Int)) := blkI (i := 2) KD.out.at_ rfl
    have r0 : w5.cell? ⟨w.heap.size + 1, 0, none⟩ = some (.int .i64 0) := blkI (i := 0) R5.out rfl
    have r1 : w5.cell? ⟨w.heap.size + 1, 1, none⟩ = some (.int .i64 0) := blkI (i := 1) R5.out rfl
    have r2 : w5.cell? ⟨w.heap.size + 1, 2, none⟩ = some (.string ⟨#[]⟩) := blkI (i := 2) R5.out rfl
    have r3 : w5.cell? ⟨w.heap.size + 1, 3, none⟩ = some (.slice none 0 0) := blkI (i := 3) R5.out rfl
    have fr : ∀ o, w5.frozen? ⟨w.heap.size + 1, o, none⟩ = false := fun o => frzI R5.out
    have e1 : w5.cell? ⟨gc, n * 2, none⟩ = some (.string nm) := (World.cell?_of_block (w := w) (a := ⟨gc, n * 2, none⟩) (O5.out.block gc HGC.out.1 HGC.out.2)).trans hc1
    have e2 : w5.cell? ⟨gc, n * 2 + 1, none⟩ = some (.slice a' al c') := (World.cell?_of_block (w := w) (a := ⟨gc, n * 2 + 1, none⟩) (O5.out.block gc HGC.out.1 HGC.out.2)).trans hc2
    go_wp2
    go_quiet ((go_at_call 81; exact Calls.quiet_of_same (hbel.out _)))
    go_wp2
    refine bodyPost_ret (v := .tuple #[.agg #[.int .i64 0, .int .i64 0, .string ⟨#[]⟩, .slice none 0 0], .slice none 0 0, .bool false]) (by simp [results, Tryz.f54, go_sem, r0, r1, r2, r3]) rfl ?_
    refine top_end HB.out (O5.out.drewN _) (KD.out.held.drewN _) _ _ _ _ ?_ ?_
    · intro _; rfl
    · intro p kids hp; cases hp

set_option maxRecDepth 100000 in
set_option maxHeartbeats 8000000 in
/-- A con. -/
theorem top_atcon {B hb hm : Nat} {wv : Value} {W : List Int} {half base next : Nat} {M : List Bool} {w : World} (h : HH B hb hm wv W half base next 0 M w) (ks : List data.DataD) (lo : Nat) (cv : Value) (hc : data.CRow w lo cv (data.spots 0 0 ks)) (hcv : ∀ g, cv.ownBlock = some g → g ≠ hb) (htl : (data.spots 0 0 ks).length ≤ 1048576) (hnb : ∀ j (hj : j < (data.spots 0 0 ks).length), (data.spots 0 0 ks)[j].c.1.size ≤ 1048576) (x : Int) (hx1 : -9223372036854775808 ≤ x) (hx2 : x ≤ 9223372036854775807) (hx : decide (x % 2 = 0) = true) (z mn : Nat) (hz : x / 2 = (z : Int)) (hat : atB base next M (z : Int) = true) (hmn : (manyF (W.getD z 0)).toNat = mn) (hzm : z + mn < W.length) (hp0 : 0 ≤ W.getD z 0) (hf : funF (W.getD z 0) = false) (s : data.Spot) (hcn : conAt ks (tagF (W.getD z 0)) = some s) (hm5 : (s.c.2.length : Int) = (mn : Int)) :
    Calls Tryz.prog 54 #[.agg #[.pointer (some ⟨hb, 0, none⟩), cv], .int .i64 x] w fun e w' => TopOut B hb hm wv W half base next M w (some ((2, 0, s.c.1), (W.drop (z + 1)).take mn)) e w' := by
  have hlo := h.lo
  have hlt := h.lt
  have hC : Hid (data.CRow w lo cv (data.spots 0 0 ks)) := hc
  obtain ⟨⟨ac, cap, rfl, hcc⟩, hnm⟩ := hc
  obtain ⟨wa, hwa⟩ : ∃ wa, wa = ((w.alloc (.cells #[.pointer (some ⟨hb, 0, none⟩), .slice ac (data.spots 0 0 ks).length cap] 109)).alloc (.cells #[.int .i64 0, .int .i64 0, .string ⟨#[]⟩, .slice none 0 0] 34)) := ⟨_, rfl⟩
  have BA : Hid (Below w.heap.size w wa) := by rw [hwa]; exact ((Below.refl _ _).alloc (Nat.le_refl _) _).alloc (by simp) _
  have HA : Hid (HH B hb hm wv W half base next 0 M wa) := h.on BA.out
  have SA : Hid (wa.heap.size = w.heap.size + 2) := by show _ = _; rw [hwa]; simp
  have XA : Hid (wa.heap[w.heap.size]? = some (.cells #[.pointer (some ⟨hb, 0, none⟩), .slice ac (data.spots 0 0 ks).length cap] 109)) := by show _ = _; rw [hwa]; exact (Below.heap_alloc _ _ _ (by simp)).trans (alloc_top _ _)
  have RA : Hid (wa.heap[w.heap.size + 1]? = some (.cells #[.int .i64 0, .int .i64 0, .string ⟨#[]⟩, .slice none 0 0] 34)) := by
    show _ = _
    rw [hwa]
    have := alloc_top (w.alloc (.cells #[.pointer (some ⟨hb, 0, none⟩), .slice ac (data.spots 0 0 ks).length cap] 109)) (.cells #[.int .i64 0, .int .i64 0, .string ⟨#[]⟩, .slice none 0 0] 34)
    rwa [World.size_alloc] at this
  have hsz : w.heap.size + 2 = wa.heap.size := SA.out.symm
  have b0 : wa.cell? ⟨w.heap.size, 0, none⟩ = some (.pointer (some ⟨hb, 0, none⟩)) := blkI (i := 0) XA.out rfl
  have b0n : wa.drew.cell? ⟨w.heap.size, 0, none⟩ = some (.pointer (some ⟨hb, 0, none⟩)) := b0
  have hwr : ∀ W' : World, Calls Tryz.prog 80 #[.int .i64 x] W' fun e w' => e = .returned (.int .i64 (z : Int)) ∧ w' = W' := fun W' => by rw [← hz]; exact wordrefI_is x W'
  obtain ⟨X, hX⟩ : ∃ X, X = W.getD z 0 := ⟨_, rfl⟩
  have hcallD := blockK_yes (w := wa.drew) (HA.out.same rfl) z mn hat hmn hzm
  have hcallA := blockK_yes (w := (wa.alloc (.cells #[.bool false, .int .i64 0, .int .i64 0] 158)).drew) ((HA.out.on ((Below.refl _ _).alloc (Nat.le_refl _) _)).same rfl) z mn hat hmn hzm
  rw [← hX] at hcallD hcallA
  obtain ⟨n, hn⟩ : ∃ n : Nat, tagF (W.getD z 0) = (n : Int) ∧ ∃ hl : n < (data.spots 0 0 ks).length, s = (data.spots 0 0 ks)[n] := by
    by_cases q : tagF (W.getD z 0) < 0 ∨ ((data.spots 0 0 ks).length : Int) ≤ tagF (W.getD z 0)
    · rw [con_out q] at hcn; cases hcn
    · refine ⟨(tagF (W.getD z 0)).toNat, by omega, by omega, ?_⟩
      have e : tagF (W.getD z 0) = ((tagF (W.getD z 0)).toNat : Int) := by omega
      rw [e, con_get (by omega)] at hcn
      exact (Option.some.inj hcn).symm
  obtain ⟨hnt, hnl, rfl⟩ := hn
  have htg : tagS X = (n : Int) := by rw [← tag_pos (by rw [hX]; exact hp0), hX]; exact hnt
  rw [htg] at hcallD hcallA
  obtain ⟨gc, rfl, hg1, hg2, hc1, a', c', hc2⟩ := hcc n hnl
  have HGC : Hid (gc < w.heap.size ∧ gc ≠ hb) := ⟨hg2, hcv gc rfl⟩
  have nI : (n : Int) < ((data.spots 0 0 ks).length : Int) := by omega
  have n0 : (0 : Int) ≤ (n : Int) := by omega
  have hbel : Hid (∀ W' : World, Calls Tryz.prog 81 #[.int .i64 (n : Int), .int .i64 ((data.spots 0 0 ks).length : Int)] W' fun e w' => e = .returned (.bool true) ∧ w' = W') := fun W' => bel_is (f := ((data.spots 0 0 ks).length : Int) - 1) (by unfold inB; simp; omega) (by omega)
  obtain ⟨nm, hnm'⟩ : ∃ nm, nm = (data.spots 0 0 ks)[n].c.1 := ⟨_, rfl⟩
  obtain ⟨al, hal⟩ : ∃ al, al = (data.spots 0 0 ks)[n].c.2.length := ⟨_, rfl⟩
  have HNM : Hid (nm.size ≤ maxLen) := by show _ ≤ _; rw [hnm']; exact hnm n hnl
  rw [← hnm'] at hc1
  rw [← hal] at hc2
  have tm : ((al : Int) != (mn : Int)) = false := by rw [hal]; simpa using hm5
  rw [← hnm']
  have hlim : nm.size ≤ 281474976710656 := by rw [hnm']; have := hnb n hnl; omega
  rw [← hX] at hf
  rw [hf] at hcallD hcallA
  clear h hcc hnm hnb hX hz hmn hzm hat hp0 hcn htg hnt hnm' hal hm5
  go_enter Tryz.func54, Tryz.ntmps54
  go_wp2_with (first | (go_at_call 77; refine (isrefI_is hx).mono ?_; rintro e w' ⟨rfl, hxx⟩; subst w'))
  rw [← hwa]
  clear hwa
  go_region_held3 (fun X => X.cell? ⟨w.heap.size, 0, none⟩ = some (.pointer (some ⟨hb, 0, none⟩)))
    (first | with_reducible exact b0 | with_reducible exact b0n | with_reducible exact cellA b0 | with_reducible exact cellA b0n | (with_reducible refine cellS3 b0 ?_; omega) | exact cellA b0)
    (first
        | (go_at_call 80; first | (with_reducible refine (hwr _).mono ?_; rintro e w' ⟨rfl, hxx⟩; subst w'))
        | (go_at_call 79; with_reducible refine hcallD.mono ?_; rintro e w4 ⟨he, ho, hh⟩
           obtain ⟨v7, rfl, hrw⟩ := he
           obtain ⟨kds, hkd⟩ : ∃ kds : List Int, kds = (W.drop (z + 1)).take mn := ⟨_, rfl⟩
           rw [← hkd] at hrw
           have HK : Hid (kds = (W.drop (z + 1)).take mn) := hkd
           clear hkd
           have HO4 : Hid (Only (· = hb) wa w4) := (Only.refl _ wa).drew.trans ho
           replace b0 : w4.cell? ⟨w.heap.size, 0, none⟩ = some (.pointer (some ⟨hb, 0, none⟩)) := blkI (i := 0) ((HO4.out.block _ (by omega) (by omega)).trans XA.out) rfl
           have KD : Hid (TopK B hb hm wv W half base next M wa (w4.alloc (.cells #[.bool false, .int .i64 (n : Int), .int .i64 (mn : Int)] 158)) w4.heap.size false (n : Int) (mn : Int) v7 kds) := topk_a ho hh hrw
           clear ho hh hrw)
        | (go_at_call 79; with_reducible refine hcallA.mono ?_; rintro e w4 ⟨he, ho, hh⟩
           obtain ⟨v7, rfl, hrw⟩ := he
           obtain ⟨kds, hkd⟩ : ∃ kds : List Int, kds = (W.drop (z + 1)).take mn := ⟨_, rfl⟩
           rw [← hkd] at hrw
           have HK : Hid (kds = (W.drop (z + 1)).take mn) := hkd
           clear hkd
           have HO4 : Hid (Only (· = hb) wa w4) := (((Only.refl _ wa).alloc _).drew).trans ho
           replace b0 : w4.cell? ⟨w.heap.size, 0, none⟩ = some (.pointer (some ⟨hb, 0, none⟩)) := blkI (i := 0) ((HO4.out.block _ (by omega) (by omega)).trans XA.out) rfl
           have yb : w4.heap[wa.heap.size]? = some (.cells #[.bool false, .int .i64 0, .int .i64 0] 158) := (ho.block _ (by show wa.heap.size < (wa.alloc _).heap.size; simp) (by omega)).trans (alloc_top _ _)
           have yb0 : w4.cell? ⟨wa.heap.size, 0, none⟩ = some (.bool false) := blkI (i := 0) yb rfl
           have yb1 : w4.cell? ⟨wa.heap.size, 1, none⟩ = some (.int .i64 0) := blkI (i := 1) yb rfl
           have yb2 : w4.cell? ⟨wa.heap.size, 2, none⟩ = some (.int .i64 0) := blkI (i := 2) yb rfl
           have ybf : ∀ o, w4.frozen? ⟨wa.heap.size, o, none⟩ = false := fun o => frzI yb
           clear yb
           have KD : Hid (TopK B hb hm wv W half base next M wa (((w4.setCell ⟨wa.heap.size, 0, none⟩ (.bool false)).setCell ⟨wa.heap.size, 1, none⟩ (.int .i64 (n : Int))).setCell ⟨wa.heap.size, 2, none⟩ (.int .i64 (mn : Int))) wa.heap.size false (n : Int) (mn : Int) v7 kds) := topk_b (by omega) ho hh hrw
           clear ho hh hrw))
  all_goals
    first
      | (revert KD; generalize (w4.alloc (.cells #[.bool false, .int .i64 (n : Int), .int .i64 (mn : Int)] 158)) = w5; generalize w4.heap.size = g7; intro KD; have chk : TopK B hb hm wv W half base next M wa w5 g7 false (n : Int) (mn : Int) v7 kds := KD.out; clear chk)
      | (revert KD; generalize (((w4.setCell ⟨wa.heap.size, 0, none⟩ (.bool false)).setCell ⟨wa.heap.size, 1, none⟩ (.int .i64 (n : Int))).setCell ⟨wa.heap.size, 2, none⟩ (.int .i64 (mn : Int))) = w5; generalize wa.heap.size = g7; intro KD; have chk : TopK B hb hm wv W half base next M wa w5 g7 false (n : Int) (mn : Int) v7 kds := KD.out; clear chk)
    clear b0 b0n HO4 hcallD hcallA
    have R5 : Hid (w5.heap[w.heap.size + 1]? = some (.cells #[.int .i64 0, .int .i64 0, .string ⟨#[]⟩, .slice none 0 0] 34)) := (KD.out.only.block _ (by have := SA.out; omega) (by omega)).trans RA.out
    have X5 : Hid (w5.heap[w.heap.size]? = some (.cells #[.pointer (some ⟨hb, 0, none⟩), .slice (some ⟨gc, 0, none⟩) (data.spots 0 0 ks).length cap] 109)) := (KD.out.only.block _ (by have := SA.out; omega) (by omega)).trans XA.out
    have O5 : Hid (Only (· = hb) w w5) := (Only.ofBelow BA.out).trans KD.out.only
    have HB : Hid (hb < w.heap.size ∧ hm < w.heap.size ∧ B ≤ w.heap.size) := by show _ ∧ _; omega
    have x1 : w5.cell? ⟨w.heap.size, 1, none⟩ = some (.slice (some ⟨gc, 0, none⟩) (data.spots 0 0 ks).length cap) := blkI (i := 1) X5.out rfl
    have h0 : w5.cell? ⟨g7, 0, none⟩ = some (.bool false) := blkI (i := 0) KD.out.at_ rfl
    have h1 : w5.cell? ⟨g7, 1, none⟩ = some (.int .i64 (n : Int)) := blkI (i := 1) KD.out.at_ rfl
    have h2 : w5.cell? ⟨g7, 2, none⟩ = some (.int .i64 (mn : Int)) := blkI (i := 2) KD.out.at_ rfl
    have r0 : w5.cell? ⟨w.heap.size + 1, 0, none⟩ = some (.int .i64 0) := blkI (i := 0) R5.out rfl
    have r1 : w5.cell? ⟨w.heap.size + 1, 1, none⟩ = some (.int .i64 0) := blkI (i := 1) R5.out rfl
    have r2 : w5.cell? ⟨w.heap.size + 1, 2, none⟩ = some (.string ⟨#[]⟩) := blkI (i := 2) R5.out rfl
    have r3 : w5.cell? ⟨w.heap.size + 1, 3, none⟩ = some (.slice none 0 0) := blkI (i := 3) R5.out rfl
    have fr : ∀ o, w5.frozen? ⟨w.heap.size + 1, o, none⟩ = false := fun o => frzI R5.out
    have e1 : w5.cell? ⟨gc, n * 2, none⟩ = some (.string nm) := (World.cell?_of_block (w := w) (a := ⟨gc, n * 2, none⟩) (O5.out.block gc HGC.out.1 HGC.out.2)).trans hc1
    have e2 : w5.cell? ⟨gc, n * 2 + 1, none⟩ = some (.slice a' al c') := (World.cell?_of_block (w := w) (a := ⟨gc, n * 2 + 1, none⟩) (O5.out.block gc HGC.out.1 HGC.out.2)).trans hc2
    go_wp2
    go_quiet ((go_at_call 81; exact Calls.quiet_of_same (hbel.out _)))
    go_wp2_with fail
    refine (Tryz.strings_Clone nm _ hlim).mono ?_
    rintro e w6 ⟨rfl, hb6⟩
    have B6 : Hid (Below w5.heap.size w5 w6) := (drewN_bel (Below.refl w5.heap.size w5) _).trans hb6
    have R6 : Hid (w6.heap[w.heap.size + 1]? = some (.cells #[.int .i64 0, .int .i64 0, .string ⟨#[]⟩, .slice none 0 0] 34)) := (B6.out.block _ (Array.getElem?_eq_some_iff.1 R5.out).1).trans R5.out
    clear r0 r1 r2 r3 fr hb6 x1 h0 h1 h2 e1 e2
    have r0 : w6.cell? ⟨w.heap.size + 1, 0, none⟩ = some (.int .i64 0) := blkI (i := 0) R6.out rfl
    have r1 : w6.cell? ⟨w.heap.size + 1, 1, none⟩ = some (.int .i64 0) := blkI (i := 1) R6.out rfl
    have r2 : w6.cell? ⟨w.heap.size + 1, 2, none⟩ = some (.string ⟨#[]⟩) := blkI (i := 2) R6.out rfl
    have r3 : w6.cell? ⟨w.heap.size + 1, 3, none⟩ = some (.slice none 0 0) := blkI (i := 3) R6.out rfl
    have fr : ∀ o, w6.frozen? ⟨w.heap.size + 1, o, none⟩ = false := fun o => frzI R6.out
    go_wp2
    refine bodyPost_ret (v := .tuple #[.agg #[.int .i64 2, .int .i64 0, .string nm, .slice none 0 0], v7, .bool true]) (by simp [results, Tryz.f54, go_sem, r0, r1, r2, r3]) rfl ?_
    refine top_end HB.out (O5.out.bel B6.out) (KD.out.held.on B6.out) _ _ _ _ ?_ ?_
    · intro hn; cases hn
    · intro p kids hp
      simp only [Option.some.injEq, Prod.mk.injEq] at hp
      obtain ⟨rfl, rfl⟩ := hp
      refine ⟨HNM.out, v7, rfl, ?_⟩
      rw [← HK.out, hsz]
      exact KD.out.row.keep B6.out

end Go.Proofs.YtjofmoebijdccaaGreat.back

/-
  The program meets the blocks that are come to from roots (heldHeap.meet), under its lock.
-/
import Derived.Deep.CutRange
import Derived.Deep.RegionWith
import Derived.Test.YtjibmpebebephaaGreatDoorC1
import Derived.Test.YtjibmpebebephaaGreatDoorC2
import Derived.Test.YtjibmpebebephaaGreatDoorC3
import Derived.Test.YtjibmpebebephaaGreatDoorC4
import Derived.Test.YtjibmpebebephaaGreatDoorC5
import Derived.Test.YtjibmpebebephaaGreatDoorC6
import Derived.Test.YtjibmpebebephaaGreatDoorC7
import Derived.Test.YtjibmpebebephaaGreatDoorC8
import Derived.Test.YtjibmpebebephaaGreatDoorC9
import Derived.Test.YtjibmpebebephaaGreatDoorC10
import Derived.Test.YtjibmpebebephaaGreatDoorC11
import Derived.Test.YtjibmpebebephaaGreatDoorC12
import Derived.Test.YtjibmpebebephaaGreatDoorC13
import Derived.Test.YtjibmpebebephaaGreatDoorC14
import Derived.Test.YtjibmpebebephaaGreatDoorC15
import Derived.Test.YtjibmpebebephaaGreatDoorC16
import Derived.Test.YtjibmpebebephaaGreatDoorC17
import Derived.Test.YtjibmpebebephaaGreatDoorC18
import Derived.Test.YtjibmpebebephaaGreatDoorC19
import Derived.Test.YtjibmpebebephaaGreatDoorC20
import Derived.Test.YtjibmpebebephaaGreatDoorC21
import Derived.Test.YtjibmpebebephaaGreatDoorC22
import Derived.Test.YtjibmpebebephaaGreatDoorC23
import Derived.Test.YtjibmpebebephaaGreatDoorC24
import Derived.Test.YtjibmpebebephaaGreatDoorC25
import Derived.Test.YtjibmpebebephaaGreatDoorC26
import Derived.Test.YtjibmpebebephaaGreatDoorC27
import Derived.Test.YtjibmpebebephaaGreatDoorC28
namespace Go.Proofs.YtjibmpebebephaaGreatDoor.heap
open Go Go.RowKit Go.Deep Go.Proofs.YtjibmpebebephaaGreatDoor.rose Go.Proofs.YtjibmpebebephaaGreatDoor Go.Proofs.YtjibmpebebephaaGreatDoor.fun Go.Proofs.YtjibmpebebephaaGreatDoor.words Go.Proofs.YtjibmpebebephaaGreatDoor.ints
set_option linter.unusedVariables false
set_option linter.unusedSimpArgs false

theorem Piece.mono {w : World} {B B' : Nat} {a : Option Addr} {xs : List Int} (h : Piece w B a xs) (hb : B ≤ B') : Piece w B' a xs := fun j hj => by
  obtain ⟨b, o, h1, h2, h3, h4⟩ := h j hj
  exact ⟨b, o, h1, by omega, h3, h4⟩
theorem entB : Enters Tryz.prog 94 := enters_of Tryz.func94 (by kernel_rfl) rfl
theorem entP : Enters Tryz.prog 95 := enters_of Tryz.func95 (by kernel_rfl) rfl
theorem blk_frzH {w : World} {g j : Nat} {cs : Array Value} {t : TypeId} (h : w.heap[g]? = some (.cells cs t)) : w.frozen? ⟨g, j, none⟩ = false := by simp [World.frozen?, h]
/-- Blocks that are made one behind the other, whatever is drawn between. -/
theorem below_eq {w X : World} (e : X.heap = w.heap) (e2 : X.os = w.os ∧ X.tape = w.tape ∧ X.output = w.output) : Below w.heap.size w X := ⟨e2.1, e2.2.1, e2.2.2, by rw [e]; exact Nat.le_refl _, fun k _ => by rw [e]⟩
theorem below_one {w X : World} {o : Obj} (e : X.heap = (w.alloc o).heap) (e2 : X.os = w.os ∧ X.tape = w.tape ∧ X.output = w.output) : Below w.heap.size w X := ⟨e2.1, e2.2.1, e2.2.2, by rw [e]; simp, fun k hk => by rw [e]; exact Below.heap_alloc _ _ _ hk⟩
theorem below_two {w X : World} {o o2 : Obj} (e : X.heap = ((w.alloc o).alloc o2).heap) (e2 : X.os = w.os ∧ X.tape = w.tape ∧ X.output = w.output) : Below w.heap.size w X := ⟨e2.1, e2.2.1, e2.2.2, by rw [e]; simp; omega, fun k hk => by rw [e]; exact (Below.heap_alloc _ _ _ (by simp; omega)).trans (Below.heap_alloc _ _ _ hk)⟩
theorem two_tops (w : World) (o o2 : Obj) : ((w.alloc o).alloc o2).heap[w.heap.size]? = some o ∧ ((w.alloc o).alloc o2).heap[w.heap.size + 1]? = some o2 := by
  refine ⟨(Below.heap_alloc _ _ _ (by simp)).trans (alloc_top w o), ?_⟩
  have := alloc_top (w.alloc o) o2
  rwa [World.size_alloc] at this
def Rep1 (half : Nat) (w : World) (e : Ending) (w' : World) : Prop := e = .returned (.slice (some ⟨w.heap.size + 1, 0, none⟩) half half) ∧ Below w.heap.size w w' ∧ w'.heap[w.heap.size + 1]? = some (.cells (List.replicate half (Value.int .i64 (-1))).toArray 3)
def Rep2 (half d : Nat) (w : World) (e : Ending) (w' : World) : Prop := e = .returned (.slice (some ⟨w.heap.size + 2, 0, none⟩) half half) ∧ Below w.heap.size w w' ∧ w'.heap[w.heap.size + 2]? = some (.cells (List.replicate half (Value.int .i64 (-1))).toArray 3) ∧ w'.heap[w.heap.size + d]? = some (.cells #[.int .i64 0, .slice none 0 0, .slice none 0 0] 69)
theorem rep1 {w X : World} {half : Nat} (hh : 1 ≤ half ∧ half ≤ 3000) (e : X.heap = (w.alloc (.cells #[.int .i64 (-1)] 3)).heap) (e2 : X.os = w.os ∧ X.tape = w.tape ∧ X.output = w.output) :
    Calls Tryz.prog 95 #[.slice (some ⟨w.heap.size, 0, none⟩) 1 1, .int .i64 half] X (Rep1 half w) := by
  have hs : X.heap.size = w.heap.size + 1 := by rw [e]; simp
  have hb := below_one e e2
  have := repeat_any (-1) w.heap.size half X hh (by omega) (blk_cellH (i := 0) (by rw [e]; exact alloc_top _ _) rfl)
  rw [hs] at this
  exact this.mono fun e w' ⟨h1, h2, h3⟩ => ⟨h1, hb.trans (h3.mono (by omega)), h2⟩
theorem rep2 {w X : World} {half : Nat} (hh : 1 ≤ half ∧ half ≤ 3000) (e : X.heap = ((w.alloc (.cells #[.int .i64 (-1)] 3)).alloc (.cells #[.int .i64 0, .slice none 0 0, .slice none 0 0] 69)).heap) (e2 : X.os = w.os ∧ X.tape = w.tape ∧ X.output = w.output) :
    Calls Tryz.prog 95 #[.slice (some ⟨w.heap.size, 0, none⟩) 1 1, .int .i64 half] X (Rep2 half 1 w) := by
  have hs : X.heap.size = w.heap.size + 2 := by rw [e]; simp
  have hb := below_two e e2
  have ht := two_tops w (.cells #[.int .i64 (-1)] 3) (.cells #[.int .i64 0, .slice none 0 0, .slice none 0 0] 69)
  rw [← e] at ht
  have := repeat_any (-1) w.heap.size half X hh (by omega) (blk_cellH (i := 0) ht.1 rfl)
  rw [hs] at this
  exact this.mono fun e w' ⟨h1, h2, h3⟩ => ⟨h1, hb.trans (h3.mono (by omega)), h2, (h3.block _ (by omega)).trans ht.2⟩
theorem rep3 {w X : World} {half : Nat} (hh : 1 ≤ half ∧ half ≤ 3000) (e : X.heap = ((w.alloc (.cells #[.int .i64 0, .slice none 0 0, .slice none 0 0] 69)).alloc (.cells #[.int .i64 (-1)] 3)).heap) (e2 : X.os = w.os ∧ X.tape = w.tape ∧ X.output = w.output) :
    Calls Tryz.prog 95 #[.slice (some ⟨w.heap.size + 1, 0, none⟩) 1 1, .int .i64 half] X (Rep2 half 0 w) := by
  have hs : X.heap.size = w.heap.size + 2 := by rw [e]; simp
  have hb := below_two e e2
  have ht := two_tops w (.cells #[.int .i64 0, .slice none 0 0, .slice none 0 0] 69) (.cells #[.int .i64 (-1)] 3)
  rw [← e] at ht
  have := repeat_any (-1) (w.heap.size + 1) half X hh (by omega) (blk_cellH (i := 0) ht.2 rfl)
  rw [hs] at this
  exact this.mono fun e w' ⟨h1, h2, h3⟩ => ⟨h1, hb.trans (h3.mono (by omega)), h2, (h3.block _ (by omega)).trans ht.1⟩
/-- On the way: the heap is locked, the answer's block is as it was made. -/
structure ME (B hb hm : Nat) (wv : Value) (W : List Int) (half base next : Nat) (M : List Bool) (w X : World) : Prop where
  hh : HH B hb hm wv W half base next 1 M X
  res : X.heap[w.heap.size]? = some (.cells #[.int .i64 0, .slice none 0 0, .slice none 0 0] 69)
  bel : Below B w X
  lim : hb < w.heap.size ∧ hm < w.heap.size ∧ B ≤ w.heap.size
section
variable {B hb hm : Nat} {wv : Value} {W : List Int} {half base next : Nat} {M : List Bool} {w X Y : World}
theorem ME.lt (h : ME B hb hm wv W half base next M w X) : w.heap.size + 1 ≤ X.heap.size := (Array.getElem?_eq_some_iff.1 h.res).1
theorem ME.low (h : ME B hb hm wv W half base next M w X) (hB : Below (w.heap.size + 1) X Y) : ME B hb hm wv W half base next M w Y := by
  have hl := h.lim
  refine ⟨⟨h.hh.lo, (hB.block hb (by omega)).trans h.hh.blk, (hB.block hm (by omega)).trans h.hh.mks, h.hh.len, intsSh.on h.hh.wds fun b hb' => hB.block b (by omega), h.hh.siz⟩, (hB.block _ (Nat.lt_succ_self _)).trans h.res, h.bel.trans (hB.mono (by omega)), h.lim⟩
theorem ME.on (h : ME B hb hm wv W half base next M w X) (hB : Below X.heap.size X Y) : ME B hb hm wv W half base next M w Y := h.low (hB.mono h.lt)
theorem ME.drewN (h : ME B hb hm wv W half base next M w X) (n : Nat) : ME B hb hm wv W half base next M w (X.drewN n) := h.on ⟨rfl, rfl, rfl, Nat.le_refl _, fun _ _ => rfl⟩
end
theorem nil_num {base half : Nat} : ((numsO base half []).map (Value.int .i64)).toArray = (List.replicate half (Value.int .i64 (-1))).toArray := by rw [numsO_nil, List.map_replicate]
theorem me_end1 {B hb hm : Nat} {wv : Value} {W : List Int} {half base next : Nat} {M : List Bool} {w wr w3 : World} (h : ME B hb hm wv W half base next M w wr) (hs : half ≤ 3000 ∧ base ≤ 3000) (hR : Hid (Below wr.heap.size wr w3 ∧ w3.heap[wr.heap.size + 1]? = some (.cells (List.replicate half (Value.int .i64 (-1))).toArray 3))) :
    Hid (ME B hb hm wv W half base next M w (w3.alloc (.cells #[.int .i64 base, .slice none 0 0, .slice (some ⟨wr.heap.size + 1, 0, none⟩) half half] 69))) ∧ Hid (MB (w.heap.size + 1) w3.heap.size (wr.heap.size + 1) (.slice none 0 0) base half [] (w3.alloc (.cells #[.int .i64 base, .slice none 0 0, .slice (some ⟨wr.heap.size + 1, 0, none⟩) half half] 69))) := by
  obtain ⟨h1, h2⟩ := hR.out
  have hl := h.lt
  have hn := (Array.getElem?_eq_some_iff.1 h2).1
  refine ⟨(h.on h1).on ((Below.refl _ _).alloc (Nat.le_refl _) _), ⟨⟨by omega, by simp [Value.ownBlock]⟩, IRow.nil _ _, ?_, ⟨hs.1, hs.2, by simp, fun x hx => by cases hx⟩, List.nodup_nil⟩, ⟨by omega, by omega, by simp [Value.ownBlock]⟩, alloc_top _ _⟩
  rw [nil_num]
  exact (Below.heap_alloc _ _ _ hn).trans h2
theorem me_end2 {B hb hm : Nat} {wv : Value} {W : List Int} {half base next : Nat} {M : List Bool} {w wr w3 : World} (h : ME B hb hm wv W half base next M w wr) (hs : half ≤ 3000 ∧ base ≤ 3000) {d : Nat} (hd : d ≤ 1) (hR : Hid (Below wr.heap.size wr w3 ∧ w3.heap[wr.heap.size + 2]? = some (.cells (List.replicate half (Value.int .i64 (-1))).toArray 3) ∧ w3.heap[wr.heap.size + d]? = some (.cells #[.int .i64 0, .slice none 0 0, .slice none 0 0] 69))) :
    Hid (ME B hb hm wv W half base next M w (((w3.setCell ⟨wr.heap.size + d, 0, none⟩ (.int .i64 base)).setCell ⟨wr.heap.size + d, 1, none⟩ (.slice none 0 0)).setCell ⟨wr.heap.size + d, 2, none⟩ (.slice (some ⟨wr.heap.size + 2, 0, none⟩) half half))) ∧ Hid (MB (w.heap.size + 1) (wr.heap.size + d) (wr.heap.size + 2) (.slice none 0 0) base half [] (((w3.setCell ⟨wr.heap.size + d, 0, none⟩ (.int .i64 base)).setCell ⟨wr.heap.size + d, 1, none⟩ (.slice none 0 0)).setCell ⟨wr.heap.size + d, 2, none⟩ (.slice (some ⟨wr.heap.size + 2, 0, none⟩) half half))) := by
  obtain ⟨h1, h2, h3⟩ := hR.out
  have hl := h.lt
  have ht := setr3 (.int .i64 base) (.slice none 0 0) (.slice (some ⟨wr.heap.size + 2, 0, none⟩) half half) h3
  have hb : Below wr.heap.size wr (((w3.setCell ⟨wr.heap.size + d, 0, none⟩ (.int .i64 base)).setCell ⟨wr.heap.size + d, 1, none⟩ (.slice none 0 0)).setCell ⟨wr.heap.size + d, 2, none⟩ (.slice (some ⟨wr.heap.size + 2, 0, none⟩) half half)) := ((h1.setCell (by show _ ≤ wr.heap.size + d; omega) _).setCell (by show _ ≤ wr.heap.size + d; omega) _).setCell (by show _ ≤ wr.heap.size + d; omega) _
  refine ⟨h.on hb, ⟨⟨by omega, by simp [Value.ownBlock]⟩, IRow.nil _ _, ?_, ⟨hs.1, hs.2, by simp, fun x hx => by cases hx⟩, List.nodup_nil⟩, ⟨by omega, by omega, by simp [Value.ownBlock]⟩, ht⟩
  rw [nil_num, ← h2]
  exact ((Below.heap_setCell _ _ _ _ (by show wr.heap.size + 2 ≠ wr.heap.size + d; omega)).trans (Below.heap_setCell _ _ _ _ (by show wr.heap.size + 2 ≠ wr.heap.size + d; omega))).trans (Below.heap_setCell _ _ _ _ (by show wr.heap.size + 2 ≠ wr.heap.size + d; omega))
/-- What meet answers. -/
def MeetOut (B nb0 : Nat) (half base : Nat) (ok : Bool) (O : List Int) (e : Ending) (w' : World) : Prop :=
  (ok = false → e = .returned (.tuple #[.agg #[.int .i64 0, .slice none 0 0, .slice none 0 0], .bool false])) ∧
  (ok = true → ∃ nb v, e = .returned (.tuple #[.agg #[.int .i64 base, v, .slice (some ⟨nb, 0, none⟩) half half], .bool true]) ∧ Met nb0 nb v base half O w')

theorem ref_span {T : HeapD} {l : List Int} {base next half : Nat} (hl : ∀ y ∈ l, (base : Int) ≤ y ∧ y < (next : Int)) (hn : next ≤ base + half) {x : Int} (hx : thereB l x = true) (h2 : x % 2 = 0) : (base : Int) ≤ x / 2 ∧ x / 2 < base + half := by
  unfold thereB at hx
  rw [if_pos h2] at hx
  have := hl _ (of_decide_eq_true hx)
  omega

set_option maxRecDepth 100000 in
set_option maxHeartbeats 16000000 in
theorem meet_is {B hb hm : Nat} {wv : Value} {W : List Int} {half base next : Nat} {M : List Bool} {w : World} (h : HH B hb hm wv W half base next 0 M w) (hT : heapB (W, (half : Int), (base : Int), (next : Int)) = true) (hM : MarksAre half base M (plF W next base).1) (a : Option Addr) (c : Nat) (rs : List Int) (hl : rs.length ≤ 1048576) (hp : Piece w B a rs) :
    Calls Tryz.prog 68 #[.pointer (some ⟨hb, 0, none⟩), .slice a rs.length c] w fun e w' => MeetOut B (w.heap.size + 1) half base (rs.all (thereB (plF W next base).1)) (orderF (W, (half : Int), (base : Int), (next : Int)) rs) e w' ∧ HH B hb hm wv W half base next 0 M w' ∧ Below B w w' := by
  have HPT : Hid (plT (W, (half : Int), (base : Int), (next : Int)) = plF W next base) := by show _ = _; unfold plT; simp
  have hplok : (plF W next base).2 = true := by have := heap_places hT; rwa [HPT.out] at this
  have HSP : Hid (∀ y ∈ (plF W next base).1, (base : Int) ≤ y ∧ y < (next : Int)) := plF_span hplok
  have HKM : Hid (∀ x, kidM base next M x = thereB (plF W next base).1 x) := fun x => kidM_is hM h.siz.2.2.2.2.2 HSP.out x
  have HT : Hid (heapB (W, (half : Int), (base : Int), (next : Int)) = true) := hT
  have hlt := h.lt
  have hlo := h.lo
  have LIM : Hid (hb < w.heap.size ∧ hm < w.heap.size ∧ B ≤ w.heap.size) := ⟨hlt.1, hlt.2, by omega⟩
  have HSZ : Hid _ := h.siz
  have P0 : Hid (Piece w B a rs) := hp
  have hw0 : HH B hb hm wv W half base next 0 M (w.alloc (.cells #[.int .i64 0, .slice none 0 0, .slice none 0 0] 69)) := h.on ((Below.refl _ _).alloc (Nat.le_refl _) _)
  have T0 := alloc_top w (.cells #[.int .i64 0, .slice none 0 0, .slice none 0 0] 69)
  have hB0 : Below B w (w.alloc (.cells #[.int .i64 0, .slice none 0 0, .slice none 0 0] 69)) := ((Below.refl _ _).alloc (Nat.le_refl _) _).mono LIM.out.2.2
  generalize hwa : w.alloc (.cells #[.int .i64 0, .slice none 0 0, .slice none 0 0] 69) = wa at *
  have c0 := hw0.c0
  have z0 := hw0.frz 0
  have E1 : Hid (ME B hb hm wv W half base next M w (wa.setCell ⟨hb, 0, none⟩ (.int .i32 1))) := ⟨hw0.lockw 1, (Below.heap_setCell _ _ _ _ (by have := LIM.out; show w.heap.size ≠ hb; omega)).trans T0, hB0.setCell hlo.1 _, LIM.out⟩
  obtain ⟨O, hO⟩ : ∃ O, O = orderF (W, (half : Int), (base : Int), (next : Int)) rs := ⟨_, rfl⟩
  have HO : Hid (O = orderF (W, (half : Int), (base : Int), (next : Int)) rs) := hO
  obtain ⟨ok, hok⟩ : ∃ ok, ok = rs.all (thereB (plF W next base).1) := ⟨_, rfl⟩
  have HOK : Hid (ok = rs.all (thereB (plF W next base).1)) := hok
  rw [← hO, ← hok]
  have h63 : half ≤ 3000 ∧ base ≤ 3000 := by have := HSZ.out; omega
  clear h hT hM hp hplok hlt hlo hw0 T0 hB0 hO hok
  go_enter_defers Tryz.func68, Tryz.ntmps68
  go_wp2_with (go_at_call 91; refine (Go.MuLone.lock_free lock.muLib ⟨hb, 0, none⟩ _ c0 z0).mono ?_; rintro e w' ⟨rfl, rfl⟩)
  clear c0 z0
  go_loopw [19] (fun v19 wr => ∃ k : Nat, k ≤ rs.length ∧ v19 = .int .i64 k ∧ Hid (ME B hb hm wv W half base next M w wr) ∧ Hid (∀ j (hj : j < rs.length), j < k → thereB (plF W next base).1 rs[j] = true)) (fun v19 _ => rs.length + 1 - (intOf v19).toNat)
  case atStart => exact ⟨0, Nat.zero_le _, rfl, E1, fun j _ hj => absurd hj (Nat.not_lt_zero _)⟩
  case round =>
    obtain ⟨k, hk, rfl, HE, HD⟩ := hrel
    by_cases hkl : k < rs.length
    · obtain ⟨b, o, rfl, hbB, hc, r1, r2⟩ := (P0.out.on HE.out.bel) k hkl
      obtain ⟨x, hx⟩ : ∃ x, x = rs[k] := ⟨_, rfl⟩
      rw [← hx] at hc r1 r2
      have hcall := okKid_is HE.out.hh x r1 r2
      rw [HKM.out x] at hcall
      have HX : Hid (x = rs[k]) := hx
      have kI : (k : Int) < (rs.length : Int) := by omega
      have k0 : (0 : Int) ≤ (k : Int) := by omega
      clear hx
      rcases q : thereB (plF W next base).1 x with _ | _
      · have HF : Hid (ok = false) := by show _ = _; rw [HOK.out, List.all_eq_false]; exact ⟨rs[k], List.getElem_mem hkl, by rw [← HX.out, q]; decide⟩
        rw [q] at hcall
        clear q
        go_wp2_with fail
        refine hcall.mono ?_
        rintro e w2 ⟨rfl, n, rfl⟩
        have E2 : Hid (ME B hb hm wv W half base next M w (wr.drewN n)) := HE.out.drewN n
        clear hcall
        generalize wr.drewN n = w2 at *
        have x0 : w2.cell? ⟨w.heap.size, 0, none⟩ = some (.int .i64 0) := blk_cellH (i := 0) E2.out.res rfl
        have x1 : w2.cell? ⟨w.heap.size, 1, none⟩ = some (.slice none 0 0) := blk_cellH (i := 1) E2.out.res rfl
        have x2 : w2.cell? ⟨w.heap.size, 2, none⟩ = some (.slice none 0 0) := blk_cellH (i := 2) E2.out.res rfl
        have xf : ∀ j, w2.frozen? ⟨w.heap.size, j, none⟩ = false := fun j => by simp [World.frozen?, E2.out.res]
        go_wp2
        have HNE : ¬ w.heap.size = hb ∧ ¬ w.heap.size = hm ∧ B ≤ w.heap.size := by have := LIM.out; omega
        have H5 := E2.out.hh.res (.int .i64 0) (.slice none 0 0) (.slice none 0 0) HNE.1 HNE.2.1 HNE.2.2
        have T5 := setr3 (.int .i64 0) (.slice none 0 0) (.slice none 0 0) E2.out.res
        have B5 : Below B w (((w2.setCell ⟨w.heap.size, 0, none⟩ (.int .i64 0)).setCell ⟨w.heap.size, 1, none⟩ (.slice none 0 0)).setCell ⟨w.heap.size, 2, none⟩ (.slice none 0 0)) := ((E2.out.bel.setCell HNE.2.2 _).setCell HNE.2.2 _).setCell HNE.2.2 _
        have HLB : Hid (B ≤ hb) := E2.out.hh.lo.1
        clear x0 x1 x2 xf
        generalize ((w2.setCell ⟨w.heap.size, 0, none⟩ (.int .i64 0)).setCell ⟨w.heap.size, 1, none⟩ (.slice none 0 0)).setCell ⟨w.heap.size, 2, none⟩ (.slice none 0 0) = w5 at *
        refine leaves_cons (f := 92) (args := #[.pointer (some ⟨hb, 0, none⟩)]) (by simp) (by simp [go_sem]) ?_
        refine (Go.MuLone.unlock_deferred lock.muLib ⟨hb, 0, none⟩ .returning _ H5.c0 (H5.frz 0)).mono ?_
        rintro e u' w'' ⟨rfl, rfl, rfl⟩
        have T6 : (w5.setCell ⟨hb, 0, none⟩ (.int .i32 0)).heap[w.heap.size]? = some (.cells #[.int .i64 0, .slice none 0 0, .slice none 0 0] 69) := (Below.heap_setCell _ _ _ _ (by show w.heap.size ≠ hb; exact HNE.1)).trans T5
        have x0 : (w5.setCell ⟨hb, 0, none⟩ (.int .i32 0)).cell? ⟨w.heap.size, 0, none⟩ = some (.int .i64 0) := blk_cellH (i := 0) T6 rfl
        have x1 : (w5.setCell ⟨hb, 0, none⟩ (.int .i32 0)).cell? ⟨w.heap.size, 1, none⟩ = some (.slice none 0 0) := blk_cellH (i := 1) T6 rfl
        have x2 : (w5.setCell ⟨hb, 0, none⟩ (.int .i32 0)).cell? ⟨w.heap.size, 2, none⟩ = some (.slice none 0 0) := blk_cellH (i := 2) T6 rfl
        have B6 := B5.setCell HLB.out (p := ⟨hb, 0, none⟩) (.int .i32 0)
        have H6 := H5.lockw 0
        clear T6 T5 H5 B5
        generalize w5.setCell ⟨hb, 0, none⟩ (.int .i32 0) = w6 at *
        refine ⟨.tuple #[.agg #[.int .i64 0, .slice none 0 0, .slice none 0 0], .bool false], by simp [results, Tryz.f68, go_sem, x0, x1, x2], ⟨fun _ => rfl, fun hq => by rw [HF.out] at hq; cases hq⟩, H6, B6⟩
      · have HQ : Hid (thereB (plF W next base).1 x = true) := q
        rw [q] at hcall
        clear q
        go_wp2_with fail
        refine hcall.mono ?_
        rintro e w2 ⟨rfl, n, rfl⟩
        have E2 : Hid (ME B hb hm wv W half base next M w (wr.drewN n)) := HE.out.drewN n
        clear hcall
        generalize wr.drewN n = w2 at *
        go_wp2
        go_round
        case rel => exact ⟨k + 1, by omega, by go_num, E2, fun j hj hjk => by
          by_cases e : j = k
          · subst e; rw [← HX.out]; exact HQ.out
          · exact HD.out j hj (by omega)⟩
        case measure => simp [intOf]; omega
    · obtain rfl : k = rs.length := by omega
      have HY : Hid (ok = true) := by
        show _ = _; rw [HOK.out, List.all_eq_true]
        intro y hy
        obtain ⟨i, hi, rfl⟩ := List.getElem_of_mem hy
        exact HD.out i hi hi
      have c4x : ∀ X : World, Below wr.heap.size wr X → X.cell? ⟨hb, 4, none⟩ = some (.int .i64 half) := fun X hX => (HE.out.on hX).hh.c4
      have hcb : ∀ X : World, Below wr.heap.size wr X → Calls Tryz.prog 94 #[.pointer (some ⟨hb, 0, none⟩)] X fun e w' => e = .returned (.int .i64 base) ∧ ∃ n, w' = X.drewN n := fun X hX => base_is (HE.out.on hX).hh
      have hh1 : 1 ≤ half ∧ half ≤ 3000 := by have := HSZ.out; omega
      go_upto_region 9 with fail
      go_cut [8] from 29 to 55 (fun v8 wx => ∃ mb nb, v8 = .pointer (some ⟨mb, 0, none⟩) ∧ Hid (ME B hb hm wv W half base next M w wx) ∧ Hid (MB (w.heap.size + 1) mb nb (.slice none 0 0) base half [] wx))
      case first =>
        have WB0 : Hid (Below wr.heap.size wr wr) := Below.refl _ _
        have c4 := c4x _ WB0.out
        have c4n : wr.drew.cell? ⟨hb, 4, none⟩ = some (.int .i64 half) := c4
        have c4m : ∀ n, (wr.drewN n).cell? ⟨hb, 4, none⟩ = some (.int .i64 half) := fun n => c4
        have c4b : ∀ o, (wr.alloc o).cell? ⟨hb, 4, none⟩ = some (.int .i64 half) := fun o => c4x _ (below_one rfl ⟨rfl, rfl, rfl⟩)
        have c4a : ∀ n o, ((wr.drewN n).alloc o).cell? ⟨hb, 4, none⟩ = some (.int .i64 half) := fun n o => c4b o
        have c4c : ∀ n o, ((wr.alloc o).drewN n).cell? ⟨hb, 4, none⟩ = some (.int .i64 half) := fun n o => c4b o
        have c4f : ∀ o o2, ((wr.alloc o).alloc o2).cell? ⟨hb, 4, none⟩ = some (.int .i64 half) := fun o o2 => c4x _ (below_two rfl ⟨rfl, rfl, rfl⟩)
        have c4d : ∀ n o o2, (((wr.alloc o).drewN n).alloc o2).cell? ⟨hb, 4, none⟩ = some (.int .i64 half) := fun n o o2 => c4f o o2
        have c4e : ∀ n o o2, (((wr.drewN n).alloc o).alloc o2).cell? ⟨hb, 4, none⟩ = some (.int .i64 half) := fun n o o2 => c4f o o2
        have c4g : ∀ n o o2, (((wr.alloc o).alloc o2).drewN n).cell? ⟨hb, 4, none⟩ = some (.int .i64 half) := fun n o o2 => c4f o o2
        refine wp_region_noPanic ?_
        go_region_law
          (first
            | (refine step_call rfl 94 entB _ _ rfl _ _ (hcb _ (by first | exact below_eq rfl ⟨rfl, rfl, rfl⟩ | exact below_one rfl ⟨rfl, rfl, rfl⟩ | exact below_two rfl ⟨rfl, rfl, rfl⟩)) (by first | (simp [Act.eval]; done) | (simp [Act.eval, Act.put]; done)) ?_; rintro e w2 ⟨rfl, n, rfl⟩
               refine ⟨_, rfl, ?_⟩)
            | (refine step_call rfl 95 entP _ _ rfl _ (Rep1 half wr) (by exact rep1 hh1 rfl ⟨rfl, rfl, rfl⟩) (by first | (simp [Act.eval]; done) | (simp [Act.eval, Act.put]; done)) ?_; rintro e w3 ⟨rfl, hR3⟩
               have R3 : Hid _ := hR3
               clear hR3
               refine ⟨_, rfl, ?_⟩)
            | (refine step_call rfl 95 entP _ _ rfl _ (Rep2 half 1 wr) (by exact rep2 hh1 rfl ⟨rfl, rfl, rfl⟩) (by first | (simp [Act.eval]; done) | (simp [Act.eval, Act.put]; done)) ?_; rintro e w3 ⟨rfl, hR3⟩
               have R3 : Hid _ := hR3
               have x0 : w3.cell? ⟨wr.heap.size + 1, 0, none⟩ = some (.int .i64 0) := blk_cellH (i := 0) hR3.2.2 rfl
               have x1 : w3.cell? ⟨wr.heap.size + 1, 1, none⟩ = some (.slice none 0 0) := blk_cellH (i := 1) hR3.2.2 rfl
               have x2 : w3.cell? ⟨wr.heap.size + 1, 2, none⟩ = some (.slice none 0 0) := blk_cellH (i := 2) hR3.2.2 rfl
               have xf : ∀ j, w3.frozen? ⟨wr.heap.size + 1, j, none⟩ = false := fun j => blk_frzH hR3.2.2
               clear hR3
               refine ⟨_, rfl, ?_⟩)
            | (refine step_call rfl 95 entP _ _ rfl _ (Rep2 half 0 wr) (by exact rep3 hh1 rfl ⟨rfl, rfl, rfl⟩) (by first | (simp [Act.eval]; done) | (simp [Act.eval, Act.put]; done)) ?_; rintro e w3 ⟨rfl, hR3⟩
               have R3 : Hid _ := hR3
               have x0 : w3.cell? ⟨wr.heap.size, 0, none⟩ = some (.int .i64 0) := blk_cellH (i := 0) hR3.2.2 rfl
               have x1 : w3.cell? ⟨wr.heap.size, 1, none⟩ = some (.slice none 0 0) := blk_cellH (i := 1) hR3.2.2 rfl
               have x2 : w3.cell? ⟨wr.heap.size, 2, none⟩ = some (.slice none 0 0) := blk_cellH (i := 2) hR3.2.2 rfl
               have xf : ∀ j, w3.frozen? ⟨wr.heap.size, j, none⟩ = false := fun j => blk_frzH hR3.2.2
               clear hR3
               refine ⟨_, rfl, ?_⟩))
        all_goals
          refine NoPanic.normal ?_
          go_wp2_with fail
          go_meet
          first
            | exact ⟨_, _, rfl, me_end1 HE.out h63 R3⟩
            | exact ⟨_, _, rfl, me_end2 (d := 1) HE.out h63 (by decide) R3⟩
            | exact ⟨_, _, rfl, me_end2 (d := 0) HE.out h63 (by decide) R3⟩
      case rest =>
        obtain ⟨mb, nb, rfl, E3, M3⟩ := hcut
        have PR : Hid (Piece wc (w.heap.size + 1) a rs) := (P0.out.on E3.out.bel).mono (by have := LIM.out; omega)
        have HTH : Hid (∀ x ∈ rs, thereB (plF W next base).1 x = true) := fun x hx => by
          have := HOK.out
          rw [HY.out] at this
          exact List.all_eq_true.1 this.symm x hx
        have hadd := add_any M3.out a c rs hl PR.out (fun x hx h2 => ref_span (T := (W, (half : Int), (base : Int), (next : Int))) HSP.out HSZ.out.2.2.2.2.2 (HTH.out x hx) h2) E3.out.lt
        have O1 : Hid (OInv (W, (half : Int), (base : Int), (next : Int)) (addRs [] rs)) := (OInv.nil _).adds (by rw [HPT.out]; exact HTH.out)
        clear c4x hcb hh1 P0 HD
        go_wp2_with fail
        refine hadd.mono ?_
        rintro e w4 ⟨rfl, ⟨v4, hM4⟩, hb4⟩
        have E4 : Hid (ME B hb hm wv W half base next M w w4) := E3.out.low hb4
        have M4 : Hid (MB (w.heap.size + 1) mb nb v4 base half (addRs [] rs) w4) := hM4
        clear hadd hb4 hM4 PR
        go_wp2
        go_loopw [9] (fun v9 wr => ∃ (i : Nat) (vi : Value) (Oi : List Int), v9 = .int .i64 i ∧ i ≤ Oi.length ∧ Oi.length ≤ half ∧ Hid (ME B hb hm wv W half base next M w wr) ∧ Hid (MB (w.heap.size + 1) mb nb vi base half Oi wr) ∧ Hid (OInv (W, (half : Int), (base : Int), (next : Int)) Oi ∧ ∃ f, f + i = W.length + 1 ∧ scanF W f i Oi = O)) (fun v9 _ => half + 1 - (intOf v9).toNat)
        case atStart => exact ⟨0, v4, addRs [] rs, rfl, Nat.zero_le _, M4.out.met.siz.2.2.1, E4, M4, O1.out, W.length + 1, rfl, HO.out.symm⟩
        case round =>
          obtain ⟨i, vi, Oi, rfl, hi, hOi, EE, MM, FF⟩ := hrel
          obtain ⟨av, cv, hvi⟩ := own_form MM.out.met.plc.1
          subst hvi
          by_cases hlt : i < Oi.length
          · have c1 := MM.out.c1
            rcases MM.out.met.plc.open with ⟨-, h0⟩ | ⟨g, cp, hv, hg1, hg2, -, -, hcl, -⟩
            · rw [h0] at hlt; simp at hlt
            obtain ⟨rfl, rfl⟩ : av = some ⟨g, 0, none⟩ ∧ cv = cp := by simp only [Value.slice.injEq] at hv; exact ⟨hv.1, hv.2.2⟩
            have e0 : wr.cell? ⟨g, i, none⟩ = some (.int .i64 Oi[i]) := hcl i hlt
            have hmem := FF.out.1.sub _ (List.getElem_mem hlt)
            obtain ⟨q, hq, hqm⟩ := place_in HT.out hmem
            have hkt := kids_there HT.out hmem
            rw [hq] at e0
            obtain ⟨mn, hmn⟩ : ∃ t : Nat, (manyF (W.getD q 0)).toNat = t := ⟨_, rfl⟩
            have hqm' : q + mn < W.length := by rw [← hmn]; exact hqm
            have hk := kidsAt_is EE.out.hh q mn hmn hqm'
            obtain ⟨f, hf1, hf2⟩ := FF.out.2
            have hfl : Oi.length ≤ W.length := by have := HSZ.out; omega
            obtain ⟨f', rfl⟩ : ∃ f', f = f' + 1 := ⟨f - 1, by omega⟩
            rw [scan_more hlt, hq, Int.toNat_natCast] at hf2
            have HF2 : Hid (f' + (i + 1) = W.length + 1 ∧ scanF W f' (i + 1) (addRs Oi (kidsL W q)) = O) := ⟨by omega, hf2⟩
            have HKT : Hid (∀ y ∈ kidsL W q, thereB (plF W next base).1 y = true) := by
              show ∀ y ∈ _, _
              rw [hq, Int.toNat_natCast, HPT.out] at hkt
              exact hkt
            have HKL : Hid ((kidsL W q).length = mn) := by show _ = _; rw [kidsL_len, hmn]
            have hmn63 : mn ≤ 63 := by have := many_in (W.getD q 0); omega
            have hiI : (i : Int) < (Oi.length : Int) := by omega
            have hi0 : (0 : Int) ≤ (i : Int) := by omega
            clear hcl hmem hkt hqm hf1 hf2 hq hv hmn
            go_wp2_with fail
            refine hk.mono ?_
            rintro e w5 ⟨⟨kb, ko, kc, rfl, k1, k2, k3, k4⟩, hB5⟩
            have E5 : Hid (ME B hb hm wv W half base next M w w5) := EE.out.on hB5
            have M5 : Hid (MB (w.heap.size + 1) mb nb (.slice (some ⟨g, 0, none⟩) Oi.length cv) base half Oi w5) := MM.out.on hB5
            have P5 : Piece w5 (w.heap.size + 1) (some ⟨kb, ko, none⟩) (kidsL W q) := fun j hj => by
              have hj' : j < mn := by rw [← HKL.out]; exact hj
              obtain ⟨hW, q1, q2, q3⟩ := k4 j hj'
              have hkw : kb < wr.heap.size := by have := LIM.out; have := EE.out.lt; omega
              have e6 : (kidsL W q)[j] = W[q + 1 + j] := by rw [kidsL_get]; unfold kidAt; exact getD_atH hW
              rw [e6]
              exact ⟨kb, ko, rfl, by have := LIM.out; omega, (hB5.cell (p := ⟨kb, ko + j, none⟩) hkw).trans q1, q2, q3⟩
            have hadd := add_any M5.out (some ⟨kb, ko, none⟩) kc (kidsL W q) (by rw [HKL.out]; omega) P5 (fun x hx h2 => ref_span (T := (W, (half : Int), (base : Int), (next : Int))) HSP.out HSZ.out.2.2.2.2.2 (HKT.out x hx) h2) E5.out.lt
            rw [HKL.out] at hadd
            have O5 : Hid (OInv (W, (half : Int), (base : Int), (next : Int)) (addRs Oi (kidsL W q))) := FF.out.1.adds (by rw [HPT.out]; exact HKT.out)
            have HPX : Hid (Oi.length ≤ (addRs Oi (kidsL W q)).length) := by
              show _ ≤ _
              have : ∀ (l : List Int) (o : List Int), o.length ≤ (addRs o l).length := by
                intro l
                induction l with
                | nil => intro o; exact Nat.le_refl _
                | cons y l ih => intro o; refine Nat.le_trans ?_ (ih (addR o y)); unfold addR; split <;> simp
              exact this _ _
            clear hk k4 hB5 P5 c1 e0 k2 k3
            go_wp2_with fail
            refine hadd.mono ?_
            rintro e w6 ⟨rfl, ⟨v6, hM6⟩, hb6⟩
            have E6 : Hid (ME B hb hm wv W half base next M w w6) := E5.out.low hb6
            have M6 : Hid (MB (w.heap.size + 1) mb nb v6 base half (addRs Oi (kidsL W q)) w6) := hM6
            clear hadd hb6 hM6
            go_wp2
            go_round
            case rel => exact ⟨i + 1, v6, addRs Oi (kidsL W q), by go_num, by have := HPX.out; omega, M6.out.met.siz.2.2.1, E6, M6, O5.out, f', HF2.out.1, HF2.out.2⟩
            case measure => simp [intOf]; omega
          · obtain rfl : i = Oi.length := by omega
            have c1 := MM.out.c1
            have c0 := MM.out.c0
            have c2 := MM.out.c2
            have HO2 : Hid (Oi = O) := by
              show _ = _
              obtain ⟨f, hf1, hf2⟩ := FF.out.2
              rw [scan_end (Nat.le_refl _)] at hf2
              exact hf2
            have x0 : wr.cell? ⟨w.heap.size, 0, none⟩ = some (.int .i64 0) := blk_cellH (i := 0) EE.out.res rfl
            have x1 : wr.cell? ⟨w.heap.size, 1, none⟩ = some (.slice none 0 0) := blk_cellH (i := 1) EE.out.res rfl
            have x2 : wr.cell? ⟨w.heap.size, 2, none⟩ = some (.slice none 0 0) := blk_cellH (i := 2) EE.out.res rfl
            have xf : ∀ j, wr.frozen? ⟨w.heap.size, j, none⟩ = false := fun j => blk_frzH EE.out.res
            have hkk : ¬ ((Oi.length : Nat) : Int) < ((Oi.length : Nat) : Int) := by omega
            go_wp2
            have HNE : ¬ w.heap.size = hb ∧ ¬ w.heap.size = hm ∧ B ≤ w.heap.size := by have := LIM.out; omega
            have H5 := EE.out.hh.res (.int .i64 base) (.slice av Oi.length cv) (.slice (some ⟨nb, 0, none⟩) half half) HNE.1 HNE.2.1 HNE.2.2
            have T5 := setr3 (.int .i64 base) (.slice av Oi.length cv) (.slice (some ⟨nb, 0, none⟩) half half) EE.out.res
            have B5 : Below B w (((wr.setCell ⟨w.heap.size, 0, none⟩ (.int .i64 base)).setCell ⟨w.heap.size, 1, none⟩ (.slice av Oi.length cv)).setCell ⟨w.heap.size, 2, none⟩ (.slice (some ⟨nb, 0, none⟩) half half)) := ((EE.out.bel.setCell HNE.2.2 _).setCell HNE.2.2 _).setCell HNE.2.2 _
            have N5 : Met (w.heap.size + 1) nb (.slice av Oi.length cv) base half Oi (((wr.setCell ⟨w.heap.size, 0, none⟩ (.int .i64 base)).setCell ⟨w.heap.size, 1, none⟩ (.slice av Oi.length cv)).setCell ⟨w.heap.size, 2, none⟩ (.slice (some ⟨nb, 0, none⟩) half half)) := by
              have hX : ∀ k, w.heap.size + 1 ≤ k → (((wr.setCell ⟨w.heap.size, 0, none⟩ (.int .i64 base)).setCell ⟨w.heap.size, 1, none⟩ (.slice av Oi.length cv)).setCell ⟨w.heap.size, 2, none⟩ (.slice (some ⟨nb, 0, none⟩) half half)).heap[k]? = wr.heap[k]? := fun k hk => ((Below.heap_setCell _ _ _ _ (by show k ≠ w.heap.size; omega)).trans (Below.heap_setCell _ _ _ _ (by show k ≠ w.heap.size; omega))).trans (Below.heap_setCell _ _ _ _ (by show k ≠ w.heap.size; omega))
              exact MM.out.met.other (hX _ MM.out.met.lo.1) fun q hq => hX _ (MM.out.met.plc.lt q hq).1
            have HLB : Hid (B ≤ hb) := EE.out.hh.lo.1
            clear x0 x1 x2 xf c0 c1 c2
            generalize ((wr.setCell ⟨w.heap.size, 0, none⟩ (.int .i64 base)).setCell ⟨w.heap.size, 1, none⟩ (.slice av Oi.length cv)).setCell ⟨w.heap.size, 2, none⟩ (.slice (some ⟨nb, 0, none⟩) half half) = w5 at *
            refine leaves_cons (f := 92) (args := #[.pointer (some ⟨hb, 0, none⟩)]) (by simp) (by simp [go_sem]) ?_
            refine (Go.MuLone.unlock_deferred lock.muLib ⟨hb, 0, none⟩ .returning _ H5.c0 (H5.frz 0)).mono ?_
            rintro e u' w'' ⟨rfl, rfl, rfl⟩
            have T6 : (w5.setCell ⟨hb, 0, none⟩ (.int .i32 0)).heap[w.heap.size]? = some (.cells #[.int .i64 base, .slice av Oi.length cv, .slice (some ⟨nb, 0, none⟩) half half] 69) := (Below.heap_setCell _ _ _ _ (by show w.heap.size ≠ hb; exact HNE.1)).trans T5
            have x0 : (w5.setCell ⟨hb, 0, none⟩ (.int .i32 0)).cell? ⟨w.heap.size, 0, none⟩ = some (.int .i64 base) := blk_cellH (i := 0) T6 rfl
            have x1 : (w5.setCell ⟨hb, 0, none⟩ (.int .i32 0)).cell? ⟨w.heap.size, 1, none⟩ = some (.slice av Oi.length cv) := blk_cellH (i := 1) T6 rfl
            have x2 : (w5.setCell ⟨hb, 0, none⟩ (.int .i32 0)).cell? ⟨w.heap.size, 2, none⟩ = some (.slice (some ⟨nb, 0, none⟩) half half) := blk_cellH (i := 2) T6 rfl
            have B6 := B5.setCell HLB.out (p := ⟨hb, 0, none⟩) (.int .i32 0)
            have H6 := H5.lockw 0
            have N6 : Met (w.heap.size + 1) nb (.slice av Oi.length cv) base half Oi (w5.setCell ⟨hb, 0, none⟩ (.int .i32 0)) := N5.other (Below.heap_setCell _ _ _ _ (by have := LIM.out; have := N5.lo; show nb ≠ hb; omega)) fun q hq => Below.heap_setCell _ _ _ _ (by have := LIM.out; have := (N5.plc.lt q hq).1; show q ≠ hb; omega)
            clear T6 T5 H5 B5 N5
            generalize w5.setCell ⟨hb, 0, none⟩ (.int .i32 0) = w6 at *
            rw [← HO2.out]
            refine ⟨.tuple #[.agg #[.int .i64 base, .slice av Oi.length cv, .slice (some ⟨nb, 0, none⟩) half half], .bool true], by simp [results, Tryz.f68, go_sem, x0, x1, x2], ⟨fun hq => (by rw [HY.out] at hq; cases hq), fun _ => ⟨nb, _, rfl, N6⟩⟩, H6, B6⟩

end Go.Proofs.YtjibmpebebephaaGreatDoor.heap

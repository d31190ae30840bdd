/-
  The program's depthsOf, at every list of places that is right; nothing that was there is turned.
-/
import Derived.Deep.QuietTactic
import Derived.BigQuiet
import Derived.Maps.AppendAt
import Derived.WalkSmall
import Derived.Test.YtjibmpebebephaaGreatDoorC1
import Derived.Test.YtjibmpebebephaaGreatDoorC2
import Derived.Test.YtjibmpebebephaaGreatDoorC3
import Derived.Test.YtjibmpebebephaaGreatDoorC4
import Derived.Test.YtjibmpebebephaaGreatDoorC5
import Derived.Test.YtjibmpebebephaaGreatDoorC6
import Derived.Test.YtjibmpebebephaaGreatDoorC7
import Derived.Test.YtjibmpebebephaaGreatDoorC8
import Derived.Test.YtjibmpebebephaaGreatDoorC9
import Derived.Test.YtjibmpebebephaaGreatDoorC10
import Derived.Test.YtjibmpebebephaaGreatDoorC11
import Derived.Test.YtjibmpebebephaaGreatDoorC12
import Derived.Test.YtjibmpebebephaaGreatDoorC13
import Derived.Test.YtjibmpebebephaaGreatDoorC14
import Derived.Test.YtjibmpebebephaaGreatDoorC15
import Derived.Test.YtjibmpebebephaaGreatDoorC16
import Derived.Test.YtjibmpebebephaaGreatDoorC17
import Derived.Test.YtjibmpebebephaaGreatDoorC18
import Derived.Test.YtjibmpebebephaaGreatDoorC19
import Derived.Test.YtjibmpebebephaaGreatDoorC20
import Derived.Test.YtjibmpebebephaaGreatDoorC21
import Derived.Test.YtjibmpebebephaaGreatDoorC22
import Derived.Test.YtjibmpebebephaaGreatDoorC23
import Derived.Test.YtjibmpebebephaaGreatDoorC24
import Derived.Test.YtjibmpebebephaaGreatDoorC25
import Derived.Test.YtjibmpebebephaaGreatDoorC26
import Derived.Test.YtjibmpebebephaaGreatDoorC27
import Derived.Test.YtjibmpebebephaaGreatDoorC28
import Derived.Test.YtjibmpebebephaaGreatDoorC29
import Derived.Test.YtjibmpebebephaaGreatDoorC30
import Derived.Test.YtjibmpebebephaaGreatDoorC31
import Derived.Test.YtjibmpebebephaaGreatDoorC32
namespace Go.Proofs.YtjibmpebebephaaGreatDoor.fun
open Go Go.RowKit Go.Deep Go.Proofs.YtjibmpebebephaaGreatDoor.rose Go.Proofs.YtjibmpebebephaaGreatDoor Go.Proofs.YtjibmpebebephaaGreatDoor.ints
set_option linter.unusedVariables false
set_option linter.unusedSimpArgs false

/-- Ways that are kept, cell by cell. -/
def flatK (K : List (Int × Int)) : List Value := K.flatMap fun x => [.int .i64 x.1, .int .i64 x.2]
theorem flatK_len (K : List (Int × Int)) : (flatK K).length = K.length * 2 := by
  induction K with
  | nil => rfl
  | cons x K ih => simp only [flatK, List.flatMap_cons, List.length_append, List.length_cons, List.length_nil] at ih ⊢; omega
theorem flatK_push (K : List (Int × Int)) (x y : Int) : flatK (K ++ [(x, y)]) = flatK K ++ [.int .i64 x, .int .i64 y] := by simp [flatK, List.flatMap_append]

/-- The frame on the way: where all lies. -/
inductive Fr (pa : Option Addr) (pn pc q : Nat) (vk : Value) (g6 g8 : Nat) : Act → Prop
  | mk (u1 u9 u10 u11 u12 u13 u14 u15 u16 u17 u18 u19 u20 u21 u22 u23 u24 u25 u26 u27 u28 u29 u30 u31 u32 u33 u34 u35 u36 u37 u38 u39 u40 u41 u42 u43 u44 u45 u46 u47 u48 u49 u50 u51 u52 u53 u54 u55 u56 u57 u58 u59 u60 u61 u62 u63 u64 u65 u66 u67 u68 u69 u70 u71 u72 u73 u74 u75 u76 u77 u78 u79 u80 u81 u82 u83 u84 u85 u86 u87 u88 u89 u90 u91 u92 u93 u94 u95 u96 u97 u98 : Value) : Fr pa pn pc q vk g6 g8 { tmps := #[.slice pa pn pc, u1, .slice none 0 0, .bool false, .slice (some ⟨q, 0, none⟩) pn pn, vk, .pointer (some ⟨g6, 0, none⟩), .bool true, .pointer (some ⟨g8, 0, none⟩), u9, u10, u11, u12, u13, u14, u15, u16, u17, u18, u19, u20, u21, u22, u23, u24, u25, u26, u27, u28, u29, u30, u31, u32, u33, u34, u35, u36, u37, u38, u39, u40, u41, u42, u43, u44, u45, u46, u47, u48, u49, u50, u51, u52, u53, u54, u55, u56, u57, u58, u59, u60, u61, u62, u63, u64, u65, u66, u67, u68, u69, u70, u71, u72, u73, u74, u75, u76, u77, u78, u79, u80, u81, u82, u83, u84, u85, u86, u87, u88, u89, u90, u91, u92, u93, u94, u95, u96, u97, u98], defers := [] }

/-- What lies there. -/
structure DK (w0 w : World) (q g6 g8 : Nat) (D : List Int) (K : List (Int × Int)) (vk : Value) (c n m b d : Int) : Prop where
  bel : Below w0.heap.size w0 w
  lo : w0.heap.size ≤ q ∧ q < g6 ∧ g6 < g8 ∧ g8 < w.heap.size
  bq : w.heap[q]? = some (.cells (D.map (Value.int .i64)).toArray 3)
  b6 : w.heap[g6]? = some (.cells #[.int .i64 c, .int .i64 n, .int .i64 m] 90)
  b8 : w.heap[g8]? = some (.cells #[.int .i64 b, .int .i64 d] 143)
  rk : w.ownsRow (g8 + 1) 143 2 vk K.length (flatK K)

def J1 (os : List op.OpD) (pa : Option Addr) (pc : Nat) (w0 : World) (t : Nat) (a : Act) (w : World) : Prop :=
  ∃ (q g6 g8 : Nat) (D : List Int) (K : List (Int × Int)) (vk : Value) (c n m : Int) (b : Nat) (d : Int), Fr pa os.length pc q vk g6 g8 a ∧ DK w0 w q g6 g8 D K vk c n m b d ∧ MInv os D (((b : Int), d) :: K) ∧ K.length + unmet D ≤ os.length ∧ t = 4 * unmet D + 2 * (K.length + 1)
def J0 (os : List op.OpD) (pa : Option Addr) (pc : Nat) (w0 : World) (t : Nat) (a : Act) (w : World) : Prop :=
  ∃ (q g6 g8 : Nat) (D : List Int) (K : List (Int × Int)) (vk : Value) (c n m b d : Int), Fr pa os.length pc q vk g6 g8 a ∧ DK w0 w q g6 g8 D K vk c n m b d ∧ MInv os D K ∧ K.length + unmet D ≤ os.length ∧ t = 4 * unmet D + 2 * K.length + 1

section
variable {w0 w : World} {q g6 g8 : Nat} {D : List Int} {K : List (Int × Int)} {vk : Value} {c n m b d : Int}
theorem blk_cellD {w : World} {b i : Nat} {cur : Array Value} {t : TypeId} {v : Value} (h : w.heap[b]? = some (.cells cur t)) (hi : cur[i]? = some v) : w.cell? ⟨b, i, none⟩ = some v := by simp [World.cell?, h, hi]
theorem blk_freeD {w : World} {b i : Nat} {cur : Array Value} {t : TypeId} (h : w.heap[b]? = some (.cells cur t)) : w.frozen? ⟨b, i, none⟩ = false := by simp [World.frozen?, h]
theorem DK.drewN (h : DK w0 w q g6 g8 D K vk c n m b d) (z : Nat) : DK w0 (w.drewN z) q g6 g8 D K vk c n m b d := ⟨below_drewN h.bel z, h.lo, h.bq, h.b6, h.b8, h.rk⟩
theorem DK.row (h : DK w0 w q g6 g8 D K vk c n m b d) : ∀ k, vk.ownBlock = some k → g8 < k ∧ k < w.heap.size := fun k hk => ⟨by have := (h.rk.lt k hk).1; omega, (h.rk.lt k hk).2⟩
theorem DK.get (h : DK w0 w q g6 g8 D K vk c n m b d) {j : Nat} (hj : j < D.length) : w.cell? ⟨q, j, none⟩ = some (.int .i64 D[j]) := blk_cellD h.bq (by simp [hj])
/-- A depth is found. -/
theorem DK.found (h : DK w0 w q g6 g8 D K vk c n m b d) (j : Nat) (x : Int) : DK w0 (w.setCell ⟨q, j, none⟩ (.int .i64 x)) q g6 g8 (D.set j x) K vk c n m b d := by
  have hl := h.lo
  refine ⟨h.bel.setCell (by show _ ≤ q; omega) _, by simpa [World.setCell] using h.lo, ?_, ?_, ?_, own_same h.rk fun k hk => Below.heap_setCell _ _ _ _ ?_⟩
  · simp [World.setCell, Array.getElem?_modify, h.bq, List.map_set]
  · rw [Below.heap_setCell _ _ _ _ (by show g6 ≠ q; omega)]; exact h.b6
  · rw [Below.heap_setCell _ _ _ _ (by show g8 ≠ q; omega)]; exact h.b8
  · have := h.row k hk; show k ≠ q; omega
/-- The place that is looked at. -/
theorem DK.look (h : DK w0 w q g6 g8 D K vk c n m b d) (c' n' m' : Int) : DK w0 (((w.setCell ⟨g6, 0, none⟩ (.int .i64 c')).setCell ⟨g6, 1, none⟩ (.int .i64 n')).setCell ⟨g6, 2, none⟩ (.int .i64 m')) q g6 g8 D K vk c' n' m' b d := by
  have hl := h.lo
  have oth : ∀ k, k ≠ g6 → (((w.setCell ⟨g6, 0, none⟩ (.int .i64 c')).setCell ⟨g6, 1, none⟩ (.int .i64 n')).setCell ⟨g6, 2, none⟩ (.int .i64 m')).heap[k]? = w.heap[k]? := fun k hk => by
    rw [Below.heap_setCell _ _ _ _ (by exact hk), Below.heap_setCell _ _ _ _ (by exact hk), Below.heap_setCell _ _ _ _ (by exact hk)]
  refine ⟨((h.bel.setCell (by show _ ≤ g6; omega) _).setCell (by show _ ≤ g6; omega) _).setCell (by show _ ≤ g6; omega) _, by simpa [World.setCell] using h.lo, ?_, ?_, ?_, own_same h.rk fun k hk => oth k ?_⟩
  · rw [oth q (by omega)]; exact h.bq
  · simp [World.setCell, Array.getElem?_modify, h.b6]
  · rw [oth g8 (by omega)]; exact h.b8
  · have := h.row k hk; omega
theorem DK.onTo (h : DK w0 w q g6 g8 D K vk c n m b d) (x : Int) : DK w0 (w.setCell ⟨g8, 0, none⟩ (.int .i64 x)) q g6 g8 D K vk c n m x d := by
  have hl := h.lo
  refine ⟨h.bel.setCell (by show _ ≤ g8; omega) _, by simpa [World.setCell] using h.lo, ?_, ?_, ?_, own_same h.rk fun k hk => Below.heap_setCell _ _ _ _ ?_⟩
  · rw [Below.heap_setCell _ _ _ _ (by show q ≠ g8; omega)]; exact h.bq
  · rw [Below.heap_setCell _ _ _ _ (by show g6 ≠ g8; omega)]; exact h.b6
  · simp [World.setCell, Array.getElem?_modify, h.b8]
  · have := h.row k hk; show k ≠ g8; omega
theorem DK.onVal (h : DK w0 w q g6 g8 D K vk c n m b d) (x : Int) : DK w0 (w.setCell ⟨g8, 1, none⟩ (.int .i64 x)) q g6 g8 D K vk c n m b x := by
  have hl := h.lo
  refine ⟨h.bel.setCell (by show _ ≤ g8; omega) _, by simpa [World.setCell] using h.lo, ?_, ?_, ?_, own_same h.rk fun k hk => Below.heap_setCell _ _ _ _ ?_⟩
  · rw [Below.heap_setCell _ _ _ _ (by show q ≠ g8; omega)]; exact h.bq
  · rw [Below.heap_setCell _ _ _ _ (by show g6 ≠ g8; omega)]; exact h.b6
  · simp [World.setCell, Array.getElem?_modify, h.b8]
  · have := h.row k hk; show k ≠ g8; omega
theorem DK.on (h : DK w0 w q g6 g8 D K vk c n m b d) {w' : World} (hb : Below w.heap.size w w') : DK w0 w' q g6 g8 D K vk c n m b d := by
  have hl := h.lo
  have hs := hb.size
  have hs0 := h.bel.size
  refine ⟨h.bel.trans (hb.mono hs0), by omega, (hb.block q (by omega)).trans h.bq, (hb.block g6 (by omega)).trans h.b6, (hb.block g8 (by omega)).trans h.b8, own_same h.rk fun k hk => hb.block k ?_⟩
  have := h.row k hk; omega
theorem DK.push (h : DK w0 w q g6 g8 D K vk c n m b d) {w3 : World} {X : Obj} {v3 : Value} {x y : Int} (o3 : w3.ownsRow (g8 + 1) 143 2 v3 (K.length + 1) (flatK K ++ [.int .i64 x, .int .i64 y])) (g3 : (w.alloc X).grownBy w3 vk.ownBlock) : DK w0 w3 q g6 g8 D (K ++ [(x, y)]) v3 c n m b d := by
  have hl := h.lo
  have hZ : (w.alloc X).heap.size = w.heap.size + 1 := by simp
  have hs := g3.size
  have hs0 := h.bel.size
  have oth : ∀ k, k < w.heap.size → k ≤ g8 → w3.heap[k]? = w.heap[k]? := fun k h1 h2 => (g3.block k (by omega) (fun e => by have := (h.row k e.symm).1; omega)).trans (Below.heap_alloc _ _ _ h1)
  refine ⟨(h.bel.alloc hs0 _).grown g3 (by omega) (fun k hk => by have := (h.row k hk).1; omega), by omega, (oth q (by omega) (by omega)).trans h.bq, (oth g6 (by omega) (by omega)).trans h.b6, (oth g8 (by omega) (by omega)).trans h.b8, ?_⟩
  rw [List.length_append, List.length_singleton, flatK_push]
  exact o3
theorem new_two (w : World) (t : TypeId) (x y : Value) : ∀ j v, [x, y][j]? = some v → (w.alloc (.cells #[x, y] t)).cell? ((⟨w.heap.size, 0, none⟩ : Addr).add j) = some v := by
  intro j v hj
  match j, hj with
  | 0, hj => simp at hj; subst hj; rw [add_plain]; simp
  | 1, hj => simp at hj; subst hj; rw [add_plain]; simp
  | _ + 2, hj => simp at hj
theorem info_way : ∃ ti, Tryz.prog.info? 143 = some ti ∧ ti.zero = some (.agg #[.int .i64 0, .int .i64 0]) ∧ ti.size = 2 ∧ ti.bytes = 16 := by
  have : (Tryz.prog.info? 143).map (fun i => (i.zero, i.size, i.bytes)) = some (some (.agg #[.int .i64 0, .int .i64 0]), 2, 16) := by kernel_rfl
  obtain ⟨i, hi, hzz⟩ := Option.map_eq_some_iff.1 this
  simp only [Prod.mk.injEq] at hzz
  exact ⟨i, hi, hzz.1, hzz.2.1, hzz.2.2⟩
theorem own_pop {w : World} {base : Nat} {t : TypeId} {k g n c : Nat} {xs : List Value} (h : w.ownsRow base t k (.slice (some ⟨g, 0, none⟩) (n + 1) c) (n + 1) xs) : w.ownsRow base t k (.slice (some ⟨g, 0, none⟩) n c) n (xs.take (n * k)) := by
  obtain ⟨hl, hv⟩ := h
  have hle : n * k ≤ (n + 1) * k := Nat.mul_le_mul_right _ (by omega)
  refine ⟨by rw [List.length_take]; omega, Or.inr ?_⟩
  rcases hv with ⟨h, _⟩ | ⟨g', c', cur, h1, h2, h3, h4, h5, h6, h7⟩
  · cases h
  · cases h1
    refine ⟨g, c, cur, rfl, h2, h3, by omega, h5, h6, ?_⟩
    rw [← h7, List.take_take, Nat.min_eq_left hle]
theorem DK.pop {g cap : Nat} {x y : Int} (h : DK w0 w q g6 g8 D (K ++ [(x, y)]) (.slice (some ⟨g, 0, none⟩) (K.length + 1) cap) c n m b d) : DK w0 w q g6 g8 D K (.slice (some ⟨g, 0, none⟩) K.length cap) c n m b d := by
  refine ⟨h.bel, h.lo, h.bq, h.b6, h.b8, ?_⟩
  have h1 := h.rk
  rw [List.length_append, List.length_singleton] at h1
  have := own_pop h1
  rw [flatK_push, List.take_left' (flatK_len K)] at this
  exact this
end

set_option maxRecDepth 100000 in
set_option maxHeartbeats 16000000 in
theorem depthsOf_any (os : List op.OpD) (pa : Option Addr) (pc : Nat) (w : World) (r : List Int × Bool) (hl : 1 ≤ os.length ∧ os.length ≤ 3000) (hin : ∀ (b : Nat) (hb : b < os.length), ∀ s ∈ leads b os[b], 0 ≤ s ∧ s < os.length)
    (htk : ∀ (b : Nat) (hb : b < os.length), 0 ≤ takesB os[b].1 os[b].2.2 ∧ takesB os[b].1 os[b].2.2 ≤ 20) (hbad : ¬ Good os → r = ([], false)) (hgood : Good os → r = (dOf os, true))
    (h : op.opSh.slice.rep w (· < w.heap.size) [.slice pa os.length pc] os) :
    Calls Tryz.prog 74 #[.slice pa os.length pc] w fun e w' => (∃ v', e = .returned (.tuple #[v', .bool r.2]) ∧ IRow w' w.heap.size v' r.1) ∧ Below w.heap.size w w' := by
  have HIN : Hid (∀ (b : Nat) (hb : b < os.length), ∀ s ∈ leads b os[b], 0 ≤ s ∧ s < os.length) := hin
  have HTK : Hid (∀ (b : Nat) (hb : b < os.length), 0 ≤ takesB os[b].1 os[b].2.2 ∧ takesB os[b].1 os[b].2.2 ≤ 20) := htk
  have HBAD : Hid (¬ Good os → r = ([], false)) := hbad
  have HGOOD : Hid (Good os → r = (dOf os, true)) := hgood
  have HOS : Hid (op.opSh.slice.rep w (· < w.heap.size) [.slice pa os.length pc] os) := h
  have hmo : (os.length : Int) ≤ 3000 ∧ 1 ≤ (os.length : Int) := by omega
  clear hin htk hbad hgood h
  go_enter Tryz.func74, Tryz.ntmps74
  try go_wp2
  refine wp_scope_two (J1 os pa pc w) (J0 os pa pc w) rfl rfl ?meet ?turn ?first
  case meet =>
    intro t a wr hJ
    go_hide hQ
    obtain ⟨q, g6, g8, D, K, vk, c0, n0, m0, b, d, hF, hK, hM, hc, ht⟩ := hJ
    cases hF
    obtain ⟨hm, -, hb1, hd60⟩ := hM.ways _ List.mem_cons_self
    dsimp only at hm hb1 hd60
    have hpos := hm.pos
    have hbl : b < os.length := by omega
    have hbD : b < D.length := by rw [hM.len]; exact hbl
    have bI : (b : Int) < (os.length : Int) := by omega
    have KA : Hid (∀ nq, DK w (wr.drewN nq) q g6 g8 D K vk c0 n0 m0 b d) := fun nq => hK.drewN nq
    have HM : Hid (MInv os D (((b : Int), d) :: K)) := hM
    have HC : Hid (K.length + unmet D ≤ os.length ∧ t = 4 * unmet D + 2 * (K.length + 1)) := ⟨hc, ht⟩
    have c80 : wr.cell? ⟨g8, 0, none⟩ = some (.int .i64 b) := blk_cellD (i := 0) hK.b8 rfl
    have c81 : wr.cell? ⟨g8, 1, none⟩ = some (.int .i64 d) := blk_cellD (i := 1) hK.b8 rfl
    have cq : wr.cell? ⟨q, b, none⟩ = some (.int .i64 D[b]) := hK.get hbD
    have HMET : Hid (Met os (b : Int) d) := hm
    obtain ⟨y, hy⟩ : ∃ y, y = D[b] := ⟨_, rfl⟩
    rw [← hy] at cq
    have HY : Hid (y = D[b]) := hy
    clear hm hK hM hc ht hy
    by_cases hyd : y = d
    · subst hyd
      go_wp2
      go_quiet (fail)
      go_wp2
      go_step3
      simp only [Exit.then]
      subst hQ
      refine ⟨4 * unmet D + 2 * K.length + 1, by have := HC.out.2; omega, .inr ⟨rfl, q, g6, g8, D, K, vk, c0, n0, m0, b, _, Fr.mk .., KA.out nq, HM.out.same (by rw [List.getElem?_eq_getElem hbD, ← HY.out]), HC.out.1, rfl⟩⟩
    · have nyd : (y == d) = false := by simpa using hyd
      by_cases hy1 : y = -1
      · subst hy1
        go_wp2
        go_quiet (fail)
        obtain ⟨wa, hwa⟩ : ∃ wa, wa = wr.drewN nq := ⟨_, rfl⟩
        have KB : Hid (DK w wa q g6 g8 D K vk c0 n0 m0 b d) := by rw [hwa]; exact KA.out nq
        rw [← hwa]
        clear c80 c81 cq hwa
        obtain ⟨a3, c3, css3, e3, hcap3, hmax3, hrow3, hk3⟩ := op.ops_open HOS.out
        cases e3
        obtain ⟨b3, o3, rfl, hS3, hc3⟩ := hrow3 b hbl
        obtain ⟨c, n, m, hT3, hcs3, gc, gn, gm⟩ := op.op_open (hk3 b hbl)
        rw [hcs3] at hc3
        have c80 : wa.cell? ⟨g8, 0, none⟩ = some (.int .i64 b) := blk_cellD (i := 0) KB.out.b8 rfl
        have c81 : wa.cell? ⟨g8, 1, none⟩ = some (.int .i64 d) := blk_cellD (i := 1) KB.out.b8 rfl
        have cq : wa.cell? ⟨q, b, none⟩ = some (.int .i64 (-1)) := by rw [HY.out]; exact KB.out.get hbD
        have fq : wa.frozen? ⟨q, b, none⟩ = false := blk_freeD KB.out.bq
        have K1 : Hid (DK w (wa.setCell ⟨q, b, none⟩ (.int .i64 d)) q g6 g8 (D.set b d) K vk c0 n0 m0 b d) := KB.out.found b d
        have u0 : (wa.setCell ⟨q, b, none⟩ (.int .i64 d)).cell? ⟨b3, o3 + b * 3, none⟩ = some (.int .i64 c) := (K1.out.bel.cell (p := ⟨b3, o3 + b * 3, none⟩) hS3).trans (hc3 0 _ rfl)
        have u1 : (wa.setCell ⟨q, b, none⟩ (.int .i64 d)).cell? ⟨b3, o3 + b * 3 + 1, none⟩ = some (.int .i64 n) := (K1.out.bel.cell (p := ⟨b3, o3 + b * 3 + 1, none⟩) hS3).trans (hc3 1 _ rfl)
        have u2 : (wa.setCell ⟨q, b, none⟩ (.int .i64 d)).cell? ⟨b3, o3 + b * 3 + 2, none⟩ = some (.int .i64 m) := (K1.out.bel.cell (p := ⟨b3, o3 + b * 3 + 2, none⟩) hS3).trans (hc3 2 _ rfl)
        have HT : Hid (os[b] = (c, n, m) ∧ -9223372036854775808 ≤ n ∧ n ≤ 9223372036854775807 ∧ -9223372036854775808 ≤ m ∧ m ≤ 9223372036854775807) := ⟨hT3, gn.1, gn.2, gm.1, gm.2⟩
        have v80 : (wa.setCell ⟨q, b, none⟩ (.int .i64 d)).cell? ⟨g8, 0, none⟩ = some (.int .i64 b) := blk_cellD (i := 0) K1.out.b8 rfl
        have v60 : (wa.setCell ⟨q, b, none⟩ (.int .i64 d)).cell? ⟨g6, 0, none⟩ = some (.int .i64 c0) := blk_cellD (i := 0) K1.out.b6 rfl
        have v61 : (wa.setCell ⟨q, b, none⟩ (.int .i64 d)).cell? ⟨g6, 1, none⟩ = some (.int .i64 n0) := blk_cellD (i := 1) K1.out.b6 rfl
        have v62 : (wa.setCell ⟨q, b, none⟩ (.int .i64 d)).cell? ⟨g6, 2, none⟩ = some (.int .i64 m0) := blk_cellD (i := 2) K1.out.b6 rfl
        have f60 : (wa.setCell ⟨q, b, none⟩ (.int .i64 d)).frozen? ⟨g6, 0, none⟩ = false := blk_freeD K1.out.b6
        have f61 : (wa.setCell ⟨q, b, none⟩ (.int .i64 d)).frozen? ⟨g6, 1, none⟩ = false := blk_freeD K1.out.b6
        have f62 : (wa.setCell ⟨q, b, none⟩ (.int .i64 d)).frozen? ⟨g6, 2, none⟩ = false := blk_freeD K1.out.b6
        have K2 : Hid (DK w ((((wa.setCell ⟨q, b, none⟩ (.int .i64 d)).setCell ⟨g6, 0, none⟩ (.int .i64 c)).setCell ⟨g6, 1, none⟩ (.int .i64 n)).setCell ⟨g6, 2, none⟩ (.int .i64 m)) q g6 g8 (D.set b d) K vk c n m b d) := K1.out.look c n m
        have x81 : ((((wa.setCell ⟨q, b, none⟩ (.int .i64 d)).setCell ⟨g6, 0, none⟩ (.int .i64 c)).setCell ⟨g6, 1, none⟩ (.int .i64 n)).setCell ⟨g6, 2, none⟩ (.int .i64 m)).cell? ⟨g8, 1, none⟩ = some (.int .i64 d) := blk_cellD (i := 1) K2.out.b8 rfl
        have hcall := valuesBehind_any c n m d ((((wa.setCell ⟨q, b, none⟩ (.int .i64 d)).setCell ⟨g6, 0, none⟩ (.int .i64 c)).setCell ⟨g6, 1, none⟩ (.int .i64 n)).setCell ⟨g6, 2, none⟩ (.int .i64 m)) ⟨by omega, hd60⟩ (by have := HTK.out b hbl; rw [hT3] at this; exact this)
        obtain ⟨z, hz⟩ : ∃ z, z = behindB (c, n, m) d := ⟨_, rfl⟩
        rw [← hz] at hcall
        have HZ : Hid (z = behindB (c, n, m) d) := hz
        clear hc3 hcs3 hT3 hrow3 hk3 hcap3 hmax3 gc gn gm hz K1
        go_wp2_with fail
        refine hcall.mono ?_
        rintro e w1 ⟨⟨y', rfl, hy'⟩, hb1⟩
        have K3 : Hid (DK w w1 q g6 g8 (D.set b d) K vk c n m b d) := K2.out.on hb1
        have K4 : Hid (DK w (w1.setCell ⟨g8, 1, none⟩ (.int .i64 y')) q g6 g8 (D.set b d) K vk c n m b y') := K3.out.onVal y'
        have HY' : Hid (fineB (c, n, m) d = true → y' = nextD (c, n, m) d) := hy'
        clear hcall hb1 c80 c81 cq fq u0 u1 u2 v80 v60 v61 v62 f60 f61 f62 K2 x81 hy' KA KB
        have c81 : w1.cell? ⟨g8, 1, none⟩ = some (.int .i64 d) := blk_cellD (i := 1) K3.out.b8 rfl
        have f81 : w1.frozen? ⟨g8, 1, none⟩ = false := blk_freeD K3.out.b8
        have FZ : Hid (z = (fineB (c, n, m) d && decide (nextD (c, n, m) d ≤ 60))) := HZ.out
        cases z with
        | false =>
          have HB : Hid (r = ([], false)) := by
            refine HBAD.out ?_
            rcases hfi : fineB (c, n, m) d with _ | _
            · exact HM.out.bad_fine hbl (by rw [HT.out.1]; exact hfi)
            · have h1 := FZ.out
              rw [hfi] at h1
              refine HM.out.bad_many hbl (by rw [HT.out.1]; exact hfi) ?_
              rw [HT.out.1]
              simpa using h1
          go_wp2
          subst hQ
          simp only [jumps]
          go_ret2
          rw [HB.out]
          exact ⟨⟨_, rfl, IRow.nil _ _⟩, K4.out.bel⟩
        | true =>
          have HFI : Hid (fineB (c, n, m) d = true ∧ nextD (c, n, m) d ≤ 60) := by
            have h1 := FZ.out.symm
            simp only [Bool.and_eq_true, decide_eq_true_eq] at h1
            exact h1
          have hyn : y' = nextD (c, n, m) d := HY'.out HFI.out.1
          have hy60 : y' ≤ 60 ∧ 1 ≤ y' := ⟨by rw [hyn]; exact HFI.out.2, by rw [hyn]; exact next_pos HFI.out.1⟩
          have HYN : Hid (nextD (c, n, m) d = y') := hyn.symm
          have HU : Hid (unmet (D.set b d) + 1 = unmet D) := unmet_set hbD (by rw [← HY.out]; decide) (by omega)
          have HNX : Hid (∀ ls, leads b (c, n, m) = ls → MInv os (D.set b d) (ls.map (fun s => (s, y')) ++ K)) := fun ls hls => HM.out.next hbD hbl HT.out.1 (by rw [← HY.out]; decide) HFI.out.1 (HIN.out b hbl) HYN.out hy60.1 hls
          have HLI : Hid (∀ s ∈ leads b (c, n, m), 0 ≤ s ∧ s < os.length) := by have := HIN.out b hbl; rw [HT.out.1] at this; exact this
          have d60 : (w1.setCell ⟨g8, 1, none⟩ (.int .i64 y')).cell? ⟨g6, 0, none⟩ = some (.int .i64 c) := blk_cellD (i := 0) K4.out.b6 rfl
          have d61 : (w1.setCell ⟨g8, 1, none⟩ (.int .i64 y')).cell? ⟨g6, 1, none⟩ = some (.int .i64 n) := blk_cellD (i := 1) K4.out.b6 rfl
          have d62 : (w1.setCell ⟨g8, 1, none⟩ (.int .i64 y')).cell? ⟨g6, 2, none⟩ = some (.int .i64 m) := blk_cellD (i := 2) K4.out.b6 rfl
          have d80 : (w1.setCell ⟨g8, 1, none⟩ (.int .i64 y')).cell? ⟨g8, 0, none⟩ = some (.int .i64 b) := blk_cellD (i := 0) K4.out.b8 rfl
          have d81 : (w1.setCell ⟨g8, 1, none⟩ (.int .i64 y')).cell? ⟨g8, 1, none⟩ = some (.int .i64 y') := blk_cellD (i := 1) K4.out.b8 rfl
          have e80 : (w1.setCell ⟨g8, 1, none⟩ (.int .i64 y')).frozen? ⟨g8, 0, none⟩ = false := blk_freeD K4.out.b8
          have hcnt := HC.out
          clear HZ FZ HY' hyn HC
          clear K3
          by_cases h7 : c = 7 ∨ c = 21
          · have HW : Hid (MInv os (D.set b d) K) := by
              have := HNX.out [] (by unfold leads; rw [if_pos h7])
              simp only [List.map_nil, List.nil_append] at this
              exact this
            rcases h7 with rfl | rfl
            all_goals
              go_wp2
              go_step3
              simp only [Exit.then, Exit.inBlock]
              subst hQ
              exact ⟨4 * unmet (D.set b d) + 2 * K.length + 1, by have := HU.out; omega, .inr ⟨rfl, q, g6, g8, D.set b d, K, vk, _, n, m, b, y', Fr.mk .., K4.out, HW.out, by have := HU.out; omega, rfl⟩⟩
          · have n7 : (c == 7) = false := by simp; omega
            have n21 : (c == 21) = false := by simp; omega
            by_cases h19 : c = 19
            · subst h19
              have hls : leads b (19, n, m) = [n] := by simp [leads]
              obtain ⟨nn, rfl⟩ : ∃ nn : Nat, n = nn := ⟨n.toNat, by have := (HLI.out n (by rw [hls]; simp)).1; omega⟩
              have HW : Hid (MInv os (D.set b d) (((nn : Int), y') :: K)) := by
                have := HNX.out _ hls
                simp only [List.map_cons, List.map_nil, List.cons_append, List.nil_append] at this
                exact this
              clear hls
              go_wp2
              go_step3
              simp only [Exit.then, Exit.inBlock]
              subst hQ
              exact ⟨4 * unmet (D.set b d) + 2 * (K.length + 1), by have := HU.out; omega, .inl ⟨rfl, q, g6, g8, D.set b d, K, vk, _, _, m, nn, y', Fr.mk .., K4.out.onTo nn, HW.out, by have := HU.out; omega, rfl⟩⟩
            · have n19 : (c == 19) = false := by simpa using h19
              by_cases h18 : c = 18
              · subst h18
                have hls : leads b (18, n, m) = [n, (b : Int) + 1] := by simp [leads]
                obtain ⟨nn, rfl⟩ : ∃ nn : Nat, n = nn := ⟨n.toNat, by have := (HLI.out n (by rw [hls]; simp)).1; omega⟩
                have HB1 : Hid ((b : Int) + 1 < os.length) := (HLI.out ((b : Int) + 1) (by rw [hls]; simp)).2
                have HW : Hid (MInv os (D.set b d) ((((b + 1 : Nat) : Int), y') :: (K ++ [((nn : Int), y')]))) := by
                  refine (HNX.out _ hls).perm (fun x hx => ?_) (fun x hx => ?_)
                  · simp at hx ⊢; rcases hx with hx | hx | hx
                    · exact .inr (.inr hx)
                    · exact .inl hx
                    · exact .inr (.inl hx)
                  · simp at hx ⊢; rcases hx with hx | hx | hx
                    · exact .inr (.inl hx)
                    · exact .inr (.inr hx)
                    · exact .inl hx
                obtain ⟨ti, hti, hz0, hz1, hz2⟩ := info_way
                have TI : Hid (Tryz.prog.info? 143 = some ti ∧ ti.zero = some (.agg #[.int .i64 0, .int .i64 0]) ∧ ti.size = 2 ∧ ti.bytes = 16) := ⟨hti, hz0, hz1, hz2⟩
                have Z1 : Hid (g8 + 1 ≤ w1.heap.size ∧ (w1.setCell ⟨g8, 1, none⟩ (.int .i64 y')).heap.size = w1.heap.size) := by
                  have e : (w1.setCell ⟨g8, 1, none⟩ (.int .i64 y')).heap.size = w1.heap.size := by simp [World.setCell]
                  have := K4.out.lo
                  exact ⟨by omega, e⟩
                have NC : Hid (∀ j v, [Value.int .i64 (nn : Int), Value.int .i64 y'][j]? = some v → ((w1.setCell ⟨g8, 1, none⟩ (.int .i64 y')).alloc (.cells #[.int .i64 nn, .int .i64 y'] 143)).cell? ((⟨w1.heap.size, 0, none⟩ : Addr).add j) = some v) := by
                  have := new_two (w1.setCell ⟨g8, 1, none⟩ (.int .i64 y')) 143 (.int .i64 (nn : Int)) (.int .i64 y')
                  rw [Z1.out.2] at this
                  exact this
                have RK : Hid (((w1.setCell ⟨g8, 1, none⟩ (.int .i64 y')).alloc (.cells #[.int .i64 nn, .int .i64 y'] 143)).ownsRow (g8 + 1) 143 2 vk K.length (flatK K)) := K4.out.rk.alloc _
                have hku : K.length ≤ 3000 := by omega
                have O1 : Hid (∀ u ∈ [Value.int .i64 (nn : Int), Value.int .i64 y'], u.oneCell' = true) := fun u hu => by simp at hu; rcases hu with rfl | rfl <;> rfl
                clear hti hz0 hz1 hz2 hls
                go_wp2_with (at_builtin; refine wpList_append_own_at _ rfl (.tmp 61) (.tmp 67) 141 rfl (g8 + 1) 143 ti _ 2 16 Tryz.underlying141 TI.out.1 TI.out.2.1 TI.out.2.2.1 TI.out.2.2.2 rfl (by decide) vk K.length (flatK K) rfl RK.out ⟨w1.heap.size, 0, none⟩ 1 1 [.int .i64 nn, .int .i64 y'] rfl rfl NC.out O1.out (by unfold maxLen; omega) (by omega) (by have := Z1.out; simp; omega) ?_; intro v3 w3 o3 g3 n3 a3
                             have K5 : Hid (DK w w3 q g6 g8 (D.set b d) (K ++ [((nn : Int), y')]) v3 18 nn m b y') := K4.out.push o3 g3
                             have y80 : w3.cell? ⟨g8, 0, none⟩ = some (.int .i64 b) := blk_cellD (i := 0) K5.out.b8 rfl
                             have y8f : w3.frozen? ⟨g8, 0, none⟩ = false := blk_freeD K5.out.b8
                             clear o3 g3 n3 a3)
                go_step3
                simp only [Exit.then, Exit.inBlock]
                subst hQ
                exact ⟨4 * unmet (D.set b d) + 2 * (K.length + 1 + 1), by have := HU.out; omega, .inl ⟨rfl, q, g6, g8, D.set b d, K ++ [((nn : Int), y')], v3, _, _, _, b + 1, y', Fr.mk .., K5.out.onTo _, HW.out, by have := HU.out; simp; omega, by simp⟩⟩
              · have n18 : (c == 18) = false := by simpa using h18
                by_cases h10 : c = 10
                · subst h10
                  have hls : leads b (10, n, m) = [m, (b : Int) + 1] := by simp [leads]
                  obtain ⟨nn, rfl⟩ : ∃ nn : Nat, m = nn := ⟨m.toNat, by have := (HLI.out m (by rw [hls]; simp)).1; omega⟩
                  have HB1 : Hid ((b : Int) + 1 < os.length) := (HLI.out ((b : Int) + 1) (by rw [hls]; simp)).2
                  have HW : Hid (MInv os (D.set b d) ((((b + 1 : Nat) : Int), y') :: (K ++ [((nn : Int), y')]))) := by
                    refine (HNX.out _ hls).perm (fun x hx => ?_) (fun x hx => ?_)
                    · simp at hx ⊢; rcases hx with hx | hx | hx
                      · exact .inr (.inr hx)
                      · exact .inl hx
                      · exact .inr (.inl hx)
                    · simp at hx ⊢; rcases hx with hx | hx | hx
                      · exact .inr (.inl hx)
                      · exact .inr (.inr hx)
                      · exact .inl hx
                  obtain ⟨ti, hti, hz0, hz1, hz2⟩ := info_way
                  have TI : Hid (Tryz.prog.info? 143 = some ti ∧ ti.zero = some (.agg #[.int .i64 0, .int .i64 0]) ∧ ti.size = 2 ∧ ti.bytes = 16) := ⟨hti, hz0, hz1, hz2⟩
                  have Z1 : Hid (g8 + 1 ≤ w1.heap.size ∧ (w1.setCell ⟨g8, 1, none⟩ (.int .i64 y')).heap.size = w1.heap.size) := by
                    have e : (w1.setCell ⟨g8, 1, none⟩ (.int .i64 y')).heap.size = w1.heap.size := by simp [World.setCell]
                    have := K4.out.lo
                    exact ⟨by omega, e⟩
                  have NC : Hid (∀ j v, [Value.int .i64 (nn : Int), Value.int .i64 y'][j]? = some v → ((w1.setCell ⟨g8, 1, none⟩ (.int .i64 y')).alloc (.cells #[.int .i64 nn, .int .i64 y'] 143)).cell? ((⟨w1.heap.size, 0, none⟩ : Addr).add j) = some v) := by
                    have := new_two (w1.setCell ⟨g8, 1, none⟩ (.int .i64 y')) 143 (.int .i64 (nn : Int)) (.int .i64 y')
                    rw [Z1.out.2] at this
                    exact this
                  have RK : Hid (((w1.setCell ⟨g8, 1, none⟩ (.int .i64 y')).alloc (.cells #[.int .i64 nn, .int .i64 y'] 143)).ownsRow (g8 + 1) 143 2 vk K.length (flatK K)) := K4.out.rk.alloc _
                  have hku : K.length ≤ 3000 := by omega
                  have O1 : Hid (∀ u ∈ [Value.int .i64 (nn : Int), Value.int .i64 y'], u.oneCell' = true) := fun u hu => by simp at hu; rcases hu with rfl | rfl <;> rfl
                  clear hti hz0 hz1 hz2 hls
                  go_wp2_with (at_builtin; refine wpList_append_own_at _ rfl (.tmp 72) (.tmp 78) 141 rfl (g8 + 1) 143 ti _ 2 16 Tryz.underlying141 TI.out.1 TI.out.2.1 TI.out.2.2.1 TI.out.2.2.2 rfl (by decide) vk K.length (flatK K) rfl RK.out ⟨w1.heap.size, 0, none⟩ 1 1 [.int .i64 nn, .int .i64 y'] rfl rfl NC.out O1.out (by unfold maxLen; omega) (by omega) (by have := Z1.out; simp; omega) ?_; intro v3 w3 o3 g3 n3 a3
                               have K5 : Hid (DK w w3 q g6 g8 (D.set b d) (K ++ [((nn : Int), y')]) v3 10 n nn b y') := K4.out.push o3 g3
                               have y80 : w3.cell? ⟨g8, 0, none⟩ = some (.int .i64 b) := blk_cellD (i := 0) K5.out.b8 rfl
                               have y8f : w3.frozen? ⟨g8, 0, none⟩ = false := blk_freeD K5.out.b8
                               clear o3 g3 n3 a3)
                  go_step3
                  simp only [Exit.then, Exit.inBlock]
                  subst hQ
                  exact ⟨4 * unmet (D.set b d) + 2 * (K.length + 1 + 1), by have := HU.out; omega, .inl ⟨rfl, q, g6, g8, D.set b d, K ++ [((nn : Int), y')], v3, _, _, _, b + 1, y', Fr.mk .., K5.out.onTo _, HW.out, by have := HU.out; simp; omega, by simp⟩⟩
                · have n10 : (c == 10) = false := by simpa using h10
                  by_cases h11 : c = 11
                  · subst h11
                    have hls : leads b (11, n, m) = [m, (b : Int) + 1] := by simp [leads]
                    obtain ⟨nn, rfl⟩ : ∃ nn : Nat, m = nn := ⟨m.toNat, by have := (HLI.out m (by rw [hls]; simp)).1; omega⟩
                    have HB1 : Hid ((b : Int) + 1 < os.length) := (HLI.out ((b : Int) + 1) (by rw [hls]; simp)).2
                    have HW : Hid (MInv os (D.set b d) ((((b + 1 : Nat) : Int), y') :: (K ++ [((nn : Int), y')]))) := by
                      refine (HNX.out _ hls).perm (fun x hx => ?_) (fun x hx => ?_)
                      · simp at hx ⊢; rcases hx with hx | hx | hx
                        · exact .inr (.inr hx)
                        · exact .inl hx
                        · exact .inr (.inl hx)
                      · simp at hx ⊢; rcases hx with hx | hx | hx
                        · exact .inr (.inl hx)
                        · exact .inr (.inr hx)
                        · exact .inl hx
                    obtain ⟨ti, hti, hz0, hz1, hz2⟩ := info_way
                    have TI : Hid (Tryz.prog.info? 143 = some ti ∧ ti.zero = some (.agg #[.int .i64 0, .int .i64 0]) ∧ ti.size = 2 ∧ ti.bytes = 16) := ⟨hti, hz0, hz1, hz2⟩
                    have Z1 : Hid (g8 + 1 ≤ w1.heap.size ∧ (w1.setCell ⟨g8, 1, none⟩ (.int .i64 y')).heap.size = w1.heap.size) := by
                      have e : (w1.setCell ⟨g8, 1, none⟩ (.int .i64 y')).heap.size = w1.heap.size := by simp [World.setCell]
                      have := K4.out.lo
                      exact ⟨by omega, e⟩
                    have NC : Hid (∀ j v, [Value.int .i64 (nn : Int), Value.int .i64 y'][j]? = some v → ((w1.setCell ⟨g8, 1, none⟩ (.int .i64 y')).alloc (.cells #[.int .i64 nn, .int .i64 y'] 143)).cell? ((⟨w1.heap.size, 0, none⟩ : Addr).add j) = some v) := by
                      have := new_two (w1.setCell ⟨g8, 1, none⟩ (.int .i64 y')) 143 (.int .i64 (nn : Int)) (.int .i64 y')
                      rw [Z1.out.2] at this
                      exact this
                    have RK : Hid (((w1.setCell ⟨g8, 1, none⟩ (.int .i64 y')).alloc (.cells #[.int .i64 nn, .int .i64 y'] 143)).ownsRow (g8 + 1) 143 2 vk K.length (flatK K)) := K4.out.rk.alloc _
                    have hku : K.length ≤ 3000 := by omega
                    have O1 : Hid (∀ u ∈ [Value.int .i64 (nn : Int), Value.int .i64 y'], u.oneCell' = true) := fun u hu => by simp at hu; rcases hu with rfl | rfl <;> rfl
                    clear hti hz0 hz1 hz2 hls
                    go_wp2_with (at_builtin; refine wpList_append_own_at _ rfl (.tmp 72) (.tmp 78) 141 rfl (g8 + 1) 143 ti _ 2 16 Tryz.underlying141 TI.out.1 TI.out.2.1 TI.out.2.2.1 TI.out.2.2.2 rfl (by decide) vk K.length (flatK K) rfl RK.out ⟨w1.heap.size, 0, none⟩ 1 1 [.int .i64 nn, .int .i64 y'] rfl rfl NC.out O1.out (by unfold maxLen; omega) (by omega) (by have := Z1.out; simp; omega) ?_; intro v3 w3 o3 g3 n3 a3
                                 have K5 : Hid (DK w w3 q g6 g8 (D.set b d) (K ++ [((nn : Int), y')]) v3 11 n nn b y') := K4.out.push o3 g3
                                 have y80 : w3.cell? ⟨g8, 0, none⟩ = some (.int .i64 b) := blk_cellD (i := 0) K5.out.b8 rfl
                                 have y8f : w3.frozen? ⟨g8, 0, none⟩ = false := blk_freeD K5.out.b8
                                 clear o3 g3 n3 a3)
                    go_step3
                    simp only [Exit.then, Exit.inBlock]
                    subst hQ
                    exact ⟨4 * unmet (D.set b d) + 2 * (K.length + 1 + 1), by have := HU.out; omega, .inl ⟨rfl, q, g6, g8, D.set b d, K ++ [((nn : Int), y')], v3, _, _, _, b + 1, y', Fr.mk .., K5.out.onTo _, HW.out, by have := HU.out; simp; omega, by simp⟩⟩
                  · have n11 : (c == 11) = false := by simpa using h11
                    have hls : leads b (c, n, m) = [(b : Int) + 1] := by unfold leads; rw [if_neg h7, if_neg h19, if_neg h18, if_neg (by omega)]
                    have HB1 : Hid ((b : Int) + 1 < os.length) := (HLI.out ((b : Int) + 1) (by rw [hls]; simp)).2
                    have HW : Hid (MInv os (D.set b d) ((((b + 1 : Nat) : Int), y') :: K)) := by
                      have := HNX.out _ hls
                      simp only [List.map_cons, List.map_nil, List.cons_append, List.nil_append] at this
                      exact this
                    clear hls
                    go_wp2
                    go_step3
                    simp only [Exit.then, Exit.inBlock]
                    subst hQ
                    exact ⟨4 * unmet (D.set b d) + 2 * (K.length + 1), by have := HU.out; omega, .inl ⟨rfl, q, g6, g8, D.set b d, K, vk, _, _, _, b + 1, y', Fr.mk .., K4.out.onTo _, HW.out, by have := HU.out; omega, rfl⟩⟩
      · have ny1 : (y != -1) = true := by simpa using hy1
        have HB : Hid (r = ([], false)) := by
          refine HBAD.out (HM.out.bad_two hbD ?_ (by rw [← HY.out]; exact hyd))
          rcases Int.lt_or_le D[b] 0 with z | z
          · exact absurd (HY.out.trans (HM.out.low b hbD z)) hy1
          · exact z
        go_wp2
        go_quiet (fail)
        go_wp2
        subst hQ
        simp only [jumps]
        go_ret2
        rw [HB.out]
        exact ⟨⟨_, rfl, IRow.nil _ _⟩, (KA.out nq).bel⟩
  case turn =>
    intro t a wr hJ
    go_hide hQ
    obtain ⟨q, g6, g8, D, K, vk, c0, n0, m0, b, d, hF, hK, hM, hc, ht⟩ := hJ
    cases hF
    have HK : Hid (DK w wr q g6 g8 D K vk c0 n0 m0 b d) := hK
    have HM : Hid (MInv os D K) := hM
    have HC : Hid (K.length + unmet D ≤ os.length ∧ t = 4 * unmet D + 2 * K.length + 1) := ⟨hc, ht⟩
    rcases List.eq_nil_or_concat K with rfl | ⟨K', x, rfl⟩
    · obtain ⟨ka, kc, hvk⟩ := own_form hK.rk
      subst hvk
      have HR : Hid (r = (dOf os, true) ∧ D = dOf os) := ⟨HGOOD.out (HM.out.done.good fun a ha => ha), HM.out.done.list fun a ha => ha⟩
      have HI : Hid (IRow wr w.heap.size (.slice (some ⟨q, 0, none⟩) os.length os.length) D) := by
        refine ⟨⟨by simp, Or.inr ⟨q, os.length, (D.map (Value.int .i64)).toArray, ?_, HK.out.lo.1, HK.out.bq, ?_, ?_, ?_, ?_⟩⟩, fun x hx => ?_⟩
        · rw [HM.out.len]
        · rw [HM.out.len]; exact Nat.le_refl _
        · unfold maxLen; omega
        · simp [HM.out.len]
        · simp only [Nat.mul_one]; exact List.take_of_length_le (by simp)
        · obtain ⟨j, hj, rfl⟩ := List.getElem_of_mem hx
          rcases Int.lt_or_le D[j] 0 with z | z
          · rw [HM.out.low j hj z]; unfold InR; omega
          · have := (HM.out.met j hj z).2; unfold InR; omega
      clear hK hM hc ht
      go_wp2
      subst hQ
      simp only [jumps]
      go_ret2
      rw [HR.out.1]
      exact ⟨⟨_, rfl, by rw [← HR.out.2]; exact HI.out⟩, HK.out.bel⟩
    · obtain ⟨x, y⟩ := x
      obtain ⟨-, hx0, hx1, -⟩ := hM.ways (x, y) (by simp)
      dsimp only at hx0 hx1
      obtain ⟨xn, rfl⟩ : ∃ xn : Nat, x = xn := ⟨x.toNat, by omega⟩
      rw [List.concat_eq_append] at HK HM HC
      have HK2 := HK.out
      have hrk := HK2.rk
      obtain ⟨g, cap, hvk, hcp⟩ : ∃ g cap, vk = .slice (some ⟨g, 0, none⟩) (K'.length + 1) cap ∧ K'.length + 1 ≤ cap := by
        rw [List.length_append, List.length_singleton] at hrk
        rcases hrk.2 with ⟨_, h0⟩ | ⟨g, cap, cur, h1, h2, h3, h4, h5⟩
        · omega
        · exact ⟨g, cap, h1, h4⟩
      subst hvk
      have KP : Hid (DK w wr q g6 g8 D K' (.slice (some ⟨g, 0, none⟩) K'.length cap) c0 n0 m0 b d) := HK2.pop
      rw [List.length_append, List.length_singleton, flatK_push] at hrk
      have k0 : wr.cell? ⟨g, K'.length * 2, none⟩ = some (.int .i64 xn) := by
        rw [hrk.cellAt (K'.length * 2) (by omega), List.getElem?_append_right (by rw [flatK_len]; exact Nat.le_refl _), flatK_len]; simp
      have k1 : wr.cell? ⟨g, K'.length * 2 + 1, none⟩ = some (.int .i64 y) := by
        rw [hrk.cellAt (K'.length * 2 + 1) (by omega), List.getElem?_append_right (by rw [flatK_len]; omega), flatK_len]; simp
      have HW : Hid (MInv os D (((xn : Int), y) :: K')) := HM.out.perm (fun x hx => by simp at hx ⊢; exact hx.symm) (fun x hx => by simp at hx ⊢; exact hx.symm)
      have f80 : wr.frozen? ⟨g8, 0, none⟩ = false := blk_freeD HK2.b8
      have f81 : wr.frozen? ⟨g8, 1, none⟩ = false := blk_freeD HK2.b8
      have c80 : wr.cell? ⟨g8, 0, none⟩ = some (.int .i64 b) := blk_cellD (i := 0) HK2.b8 rfl
      have c81 : wr.cell? ⟨g8, 1, none⟩ = some (.int .i64 d) := blk_cellD (i := 1) HK2.b8 rfl
      have hkl : (K'.length : Int) + 1 ≤ 3000 := by have := HC.out.1; simp at this; omega
      have hcI : (K'.length : Int) + 1 ≤ (cap : Int) := by omega
      clear hK hM hc ht hrk HK HM HK2
      go_wp2
      go_step3
      subst hQ
      refine ⟨4 * unmet D + 2 * (K'.length + 1), by have := HC.out.2; simp at this; omega, .inl ⟨rfl, q, g6, g8, D, K', _, c0, n0, m0, xn, y, Fr.mk .., (KP.out.onTo xn).onVal y, HW.out, by have := HC.out.1; simp at this; omega, rfl⟩⟩
  case first =>
    intro hmeet
    go_hide hQ
    have hrep := repeat_any (-1) w.heap.size os.length (w.alloc (.cells #[.int .i64 (-1)] 3)) hl (by simp) (by simp)
    have Z0 : (w.alloc (.cells #[.int .i64 (-1)] 3)).heap.size = w.heap.size + 1 := by simp
    rw [Z0] at hrep
    go_wp2_with fail
    refine hrep.mono ?_
    rintro e w1 ⟨rfl, hrow, hb⟩
    have B1 : Hid (Below w.heap.size w w1) := ((Below.refl _ w).alloc (Nat.le_refl _) _).trans (hb.mono (by omega))
    have HR : Hid (w1.heap[w.heap.size + 1]? = some (.cells (List.replicate os.length (Value.int .i64 (-1))).toArray 3) ∧ w.heap.size + 1 < w1.heap.size) := ⟨hrow, (Array.getElem?_eq_some_iff.1 hrow).1⟩
    clear hrep hrow hb
    go_wp2
    go_step3
    simp only [Exit.then]
    rename_i hK
    apply hK
    subst hQ
    have z2 : (w1.alloc (.cells #[.int .i64 0, .int .i64 0, .int .i64 0] 90)).heap.size = w1.heap.size + 1 := by simp
    have hz := HR.out.2
    refine hmeet (4 * unmet (List.replicate os.length (-1)) + 2 * (0 + 1)) _ _ ⟨w.heap.size + 1, w1.heap.size, w1.heap.size + 1, List.replicate os.length (-1), [], .slice none 0 0, 0, 0, 0, 0, 1, Fr.mk .., ⟨?_, ?_, ?_, ?_, ?_, World.ownsRow_nil _ _ _ _⟩, MInv.start hl.1, ?_, rfl⟩
    · exact (B1.out.alloc B1.out.size _).alloc (by rw [z2]; have := B1.out.size; omega) _
    · simp; omega
    · rw [Below.heap_alloc _ _ _ (by rw [z2]; omega), Below.heap_alloc _ _ _ (by omega)]
      simpa using HR.out.1
    · rw [Below.heap_alloc _ _ _ (by rw [z2]; omega)]
      exact alloc_top _ _
    · rw [← z2]; exact alloc_top _ _
    · have : unmet (List.replicate os.length (-1)) ≤ (List.replicate os.length (-1 : Int)).length := List.countP_le_length
      simp at this ⊢; exact this

end Go.Proofs.YtjibmpebebephaaGreatDoor.fun

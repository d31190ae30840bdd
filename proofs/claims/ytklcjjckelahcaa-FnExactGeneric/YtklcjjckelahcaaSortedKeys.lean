/-
  slices.Sorted(maps.Keys(m)) at a map whose keys are ints: the keys, ascending, in new memory.
-/
import Derived.Test.YtklcjjckelahcaaKeysShelf
import Derived.Test.YtklcjjckelahcaaMapKeys
import Derived.Test.YtklcjjckelahcaaFreeVarsPure
import Derived.Test.YtklcjjckelahcaaVarsOf2
namespace Go.Proofs.Ytklcjjckelahcaa.tys
open Go.RowKit Go.Maps Go.Sort Go.Shelf Go.Proofs.Ytklcjjckelahcaa.keys Go.Proofs.Ytklcjjckelahcaa
set_option linter.unusedVariables false

theorem sortsA (m : Nat) : AnyZI.SortsIn Try.prog Try.sortedA_ren Fence.wide m :=
  ⟨fun blk off cap ss W hH hblk hsz => callsIn_wide.2 (AnyM.slices_Sort_int Try.sortA blk off cap ss W hH hblk hsz),
   fun p cap W => callsIn_wide.2 (AnyM.slices_Sort_int_none Try.sortA p cap W)⟩

theorem keysC (mb : Option Nat) (W : World) : Calls Try.prog 48 #[.map mb] W fun e w' => e = .returned (.func (.func 56) #[] #[.pointer (some ⟨W.heap.size, 0, none⟩)]) ∧ w' = W.alloc (.cells #[.map mb] 83) :=
  (callsIn_wide (n := 5)).1 (AnyZI.keys_in Try.keysA Fence.wide 5 trivial rfl mb W)

theorem perm_keys {P : Program} {k : TypeId} {R : Value → Option (DataW Unit × List MemPlace)} {w : World} {b n : Nat} {D : DataW Unit} {ks : List Int} (hown : w.ownsMap P k R b n D) (K : Keyed P k) (hk : P.underlying k = some (.int .i64)) (h : Keys D ks) : ks.Perm (intKeys D) :=
  CollectedI.perm (left := fun _ => false) ⟨h.nodup, fun x => by rw [h.has]; simp⟩ hown K hk fun _ => rfl

theorem sorted_of {l d : List Int} (hl : l.Pairwise (· < ·)) (hn : d.Nodup) (hm : ∀ x, x ∈ d ↔ x ∈ l) : (d.mergeSort fun x y => decide (x ≤ y)) = l := by
  refine ints.sorted_unique ?_ hl fun x => ?_
  · have h1 : (d.mergeSort fun x y => decide (x ≤ y)).Pairwise (fun x y => decide (x ≤ y) = true) := List.pairwise_mergeSort (fun a b c h1 h2 => by simp at *; omega) (fun a b => by simp; omega) d
    have h2 : (d.mergeSort fun x y => decide (x ≤ y)).Nodup := (List.mergeSort_perm d _).nodup_iff.2 hn
    refine (h1.and h2).imp ?_
    rintro a b ⟨q1, q2⟩
    simp at q1
    omega
  · rw [(List.mergeSort_perm d _).mem_iff, hm]

set_option maxHeartbeats 1000000 in
theorem sortedC (b nn : Nat) (D : DataW Unit) (ks l : List Int) (w : World) (hown : w.ownsMap Try.prog 3 (plainElem Try.prog 3) b nn D) (hK : Keys D ks) (hlen : ks.length ≤ 1048577) (hl : l.Pairwise (· < ·)) (hm : ∀ x, x ∈ ks ↔ x ∈ l) :
    Calls Try.prog 47 #[.func (.func 56) #[] #[.pointer (some ⟨w.heap.size, 0, none⟩)]] (w.alloc (.cells #[.map (some b)] 83)) fun e w' => (∃ v, e = .returned v ∧ ints.IRow w' w.heap.size v l) ∧ Below w.heap.size w w' := by
  have hbl := hown.lt
  have hsz : Maps.size D ≤ 1048577 := by rw [hK.size]; exact hlen
  have hseq : SeqGives Fence.wide 2 Try.prog 56 #[.pointer (some ⟨w.heap.size, 0, none⟩)] encZ (fun ss => ss.Perm (intKeys D)) (Maps.size D) (w.alloc (.cells #[.map (some b)] 83)) :=
    AnyZI.keys_gives (ρ := Try.keysA_ren) { Try.keysA with } Fence.wide _ trivial rfl (by omega) w.heap.size b nn D _ (by simp) (by simp) (by
      obtain ⟨es, clock, hb, Ft, hs, hD⟩ := hown
      exact ⟨es, clock, (Below.heap_alloc _ _ b hbl).trans hb, Ft, hs, hD⟩)
  have cS := AnyZI.sorted_in Try.sortedA Fence.wide 5 trivial trivial trivial trivial rfl (by omega) (sortsA _) (enters_of Try.func55 (by kernel_rfl) rfl) 56 #[.pointer (some ⟨w.heap.size, 0, none⟩)] trivial (enters_of Try.func56 (by kernel_rfl) rfl) _ _ (by unfold maxLen; omega) (by omega) _ hseq
  change CallsIn _ _ Try.prog 47 _ _ _ at cS
  refine ((callsIn_wide (n := 5)).1 cS).mono ?_
  rintro e w' ⟨v, ss, rfl, hS, hrow, hnil, hb⟩
  have hp := perm_keys hown intKey Try.underlying3 hK
  have hss : ss.Perm ks := hS.trans hp.symm
  have hsl : (ss.mergeSort fun x y => decide (x ≤ y)) = l := sorted_of hl (hss.nodup_iff.2 hK.nodup) fun x => (hss.mem_iff).trans (hm x)
  have hwf := intKeys_wf hown Try.underlying3
  refine ⟨⟨v, rfl, ?_, fun x hx => ?_⟩, ((Below.refl _ w).alloc (Nat.le_refl _) _).trans (hb.mono (by simp))⟩
  · have hrow' := ownsRow_base_a hrow (base' := w.heap.size) (by simp)
    have hsl' : ss.mergeSort leI = l := hsl
    rw [hsl'] at hrow'
    have hll : ss.length = l.length := by rw [← hsl]; simp
    rw [hll] at hrow'
    exact hrow'
  · have h1 : x ∈ intKeys D := (hp.mem_iff).1 ((hm x).2 hx)
    have := hwf x h1
    have := bounds_i64 this
    exact ⟨by omega, by omega⟩

end Go.Proofs.Ytklcjjckelahcaa.tys

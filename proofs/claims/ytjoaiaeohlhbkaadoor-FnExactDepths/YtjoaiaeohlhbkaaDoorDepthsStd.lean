/-
  The model's and the program's Depths, as the law's frame asks for them.
-/
import Derived.Test.YtjoaiaeohlhbkaaDoorDepthsSpec
import Derived.Test.YtjoaiaeohlhbkaaDoorDepthsImpl
import Derived.Test.YtjoaiaeohlhbkaaDoorFunMark
namespace Go.Proofs.YtjoaiaeohlhbkaaDoor.fun
open Go Go.RowKit Go.Proofs.YtjoaiaeohlhbkaaDoor.rose Go.Proofs.YtjoaiaeohlhbkaaDoor Go.Proofs.YtjoaiaeohlhbkaaDoor.ints
set_option linter.unusedVariables false

theorem specDepths_std (ks : List FunD) (i : Int) (v : Value) (w : World) (hw : (ks.length + wts ks) ≤ 1048576) (hi : -9223372036854775808 ≤ i) (hj : i ≤ 9223372036854775807) (h : funSh.slice.rep w (· < w.heap.size) [v] ks) :
    Calls Tryd.prog 5 #[v, .int .i64 i] w fun e w' => (∃ v', e = .returned (.tuple #[v', .bool (depthsF ks i).2]) ∧ intsSp.rep w' (fun b => w.heap.size ≤ b ∧ b < w'.heap.size) [v'] (depthsF ks i).1) ∧ Below w.heap.size w w' :=
  (specDepths ks i v w hw ⟨hi, hj⟩ h).mono fun e w' ⟨⟨v', he, hr⟩, hb⟩ => ⟨⟨v', he, hr.sp⟩, hb⟩
theorem implDepths_std (ks : List FunD) (i : Int) (v : Value) (w : World) (hw : (ks.length + wts ks) ≤ 1048576) (hi : -9223372036854775808 ≤ i) (hj : i ≤ 9223372036854775807) (hN : Names w) (h : funSh.slice.rep w (· < w.heap.size) [v] ks) :
    Calls Tryd.prog 7 #[v, .int .i64 i] w fun e w' => (∃ v', e = .returned (.tuple #[v', .bool (depthsF ks i).2]) ∧ intsSp.rep w' (fun b => w.heap.size ≤ b ∧ b < w'.heap.size) [v'] (depthsF ks i).1) ∧ Below w.heap.size w w' :=
  (implDepths ks i v w hw ⟨hi, hj⟩ hN h).mono fun e w' ⟨⟨v', he, hr⟩, hb⟩ => ⟨⟨v', he, hr.sp⟩, hb⟩

theorem depths_bound (ks : List FunD) (i : Int) (hw : ks.length + wts ks ≤ 1048576) : (depthsF ks i).1.length ≤ 1073741824 := by
  unfold depthsF
  split
  · rename_i h
    split
    · have h1 := inB_yes (funsB_parts h.1 h.2.2).2.1
      simp only [dOf, List.length_map, List.length_range]
      omega
    · simp
  · simp
theorem cnts_bound (ks : List FunD) (hw : ks.length + wts ks ≤ 1048576) : cnts ks ≤ 1073741824 := by have := cnts_le ks; omega

end Go.Proofs.YtjoaiaeohlhbkaaDoor.fun

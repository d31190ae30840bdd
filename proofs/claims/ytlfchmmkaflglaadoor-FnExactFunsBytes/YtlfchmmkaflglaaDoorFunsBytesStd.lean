/-
  The model's and the program's FunsBytes, as the law's frame asks for them.
-/
import Derived.Test.YtlfchmmkaflglaaDoorFunsBytesSpec
import Derived.Test.YtlfchmmkaflglaaDoorFunsBytesImpl
import Derived.Test.YtlfchmmkaflglaaDoorFunMark
namespace Go.Proofs.YtlfchmmkaflglaaDoor.fun
open Go Go.RowKit Go.Proofs.YtlfchmmkaflglaaDoor.rose Go.Proofs.YtlfchmmkaflglaaDoor Go.Proofs.YtlfchmmkaflglaaDoor.byts
set_option linter.unusedVariables false

theorem specFunsBytes_std (ks : List FunD) (v : Value) (w : World) (hw : (ks.length + wts ks) ≤ 1048576) (h : funSh.slice.rep w (· < w.heap.size) [v] ks) :
    Calls Tryd.prog 6 #[v] w fun e w' => (∃ v', e = .returned v' ∧ bytesSp.rep w' (fun b => w.heap.size ≤ b ∧ b < w'.heap.size) [v'] (fbytes ks)) ∧ Below w.heap.size w w' :=
  (specFunsBytes ks v w hw h).mono fun e w' ⟨⟨v', he, hr⟩, hb⟩ => ⟨⟨v', he, hr.sp⟩, hb⟩
theorem implFunsBytes_std (ks : List FunD) (v : Value) (w : World) (hw : (ks.length + wts ks) ≤ 1048576) (hN : Names w) (h : funSh.slice.rep w (· < w.heap.size) [v] ks) :
    Calls Tryd.prog 8 #[v] w fun e w' => (∃ v', e = .returned v' ∧ bytesSp.rep w' (fun b => w.heap.size ≤ b ∧ b < w'.heap.size) [v'] (fbytes ks)) ∧ Below w.heap.size w w' :=
  (implFunsBytes ks v w hw hN h).mono fun e w' ⟨⟨v', he, hr⟩, hb⟩ => ⟨⟨v', he, hr.sp⟩, hb⟩
theorem flatMap_len {α : Type} (f : α → List Int) (c : Nat) : ∀ xs : List α, (∀ x ∈ xs, (f x).length ≤ c) → (xs.flatMap f).length ≤ c * xs.length
  | [], _ => by simp
  | x :: xs, h => by
    have h1 := h x (List.mem_cons_self ..)
    have h2 := flatMap_len f c xs fun y hy => h y (List.mem_cons_of_mem _ hy)
    rw [List.flatMap_cons, List.length_append, List.length_cons, Nat.mul_succ]
    omega
theorem opBytes_len (o : op.OpD) : (opBytes o).length ≤ 15 := by
  unfold opBytes
  simp only [List.length_append]
  have := putB_len o.1; have := putB_len (o.2.1 + 1073741824); have := putB_len o.2.2
  omega
theorem fbytes_bound (ks : List FunD) : (fbytes ks).length ≤ 1073741824 := by
  unfold fbytes
  split
  · rename_i h
    have h1 := funs_len h
    have h2 : (ks.flatMap funBytes).length ≤ 45010 * ks.length := flatMap_len _ _ _ fun k hk => by
      obtain ⟨j, hj, rfl⟩ := List.getElem_of_mem hk
      have h3 := (fun_parts h hj).2.1
      have h4 := flatMap_len opBytes 15 ks[j].2 fun o _ => opBytes_len o
      unfold funBytes
      simp only [List.length_append]
      have := putB_len ks[j].1; have := putB_len (ks[j].2.length : Int)
      omega
    rw [List.length_append]
    have := putB_len (ks.length : Int)
    omega
  · simp
theorem cnts_boundB (ks : List FunD) (hw : ks.length + wts ks ≤ 1048576) : cnts ks ≤ 1073741824 := by have := cnts_le ks; omega

end Go.Proofs.YtlfchmmkaflglaaDoor.fun

/-
  Functions as bytes (chapter 16): told in plain data; no program named.
-/
import Derived.Test.YtlfchmmkaflglaaDoorFunsDefs
import Derived.Test.YtlfchmmkaflglaaDoorNumBytes
namespace Go.Proofs.YtlfchmmkaflglaaDoor.fun
open Go Go.Proofs.YtlfchmmkaflglaaDoor Go.Proofs.YtlfchmmkaflglaaDoor.byts
set_option linter.unusedVariables false

def opBytes (o : op.OpD) : List Int := putB o.1 ++ putB (o.2.1 + 1073741824) ++ putB o.2.2
def funBytes (k : FunD) : List Int := putB k.1 ++ putB k.2.length ++ k.2.flatMap opBytes
/-- A list's bytes: nothing of what is not right. -/
def fbytes (ks : List FunD) : List Int := if funsB ks then putB ks.length ++ ks.flatMap funBytes else []

theorem putB_nat {x : Nat} (h : x ≤ 2147483647) : putB (x : Int) = vint x := by unfold putB; rw [if_pos (by simp [inB]; omega)]; simp
theorem opBytes_is {c m nn : Nat} {n : Int} (hc : c ≤ 2147483647) (hn : (nn : Int) = n + 1073741824) (hnn : nn ≤ 2147483647) (hm : m ≤ 2147483647) : opBytes ((c : Int), n, (m : Int)) = vint c ++ vint nn ++ vint m := by
  unfold opBytes
  dsimp only
  rw [← hn, putB_nat hc, putB_nat hnn, putB_nat hm]
theorem funBytes_is {y : Nat} {os : List op.OpD} (hy : y ≤ 2147483647) (hl : os.length ≤ 2147483647) : funBytes ((y : Int), os) = vint y ++ vint os.length ++ os.flatMap opBytes := by
  unfold funBytes
  dsimp only
  rw [putB_nat hy, putB_nat hl]
theorem funs_len {ks : List FunD} (h : funsB ks = true) : 1 ≤ ks.length ∧ ks.length ≤ 60 := by
  unfold funsB at h
  simp only [Bool.and_eq_true] at h
  have := inB_yes h.1.1
  omega
theorem op_in {ks : List FunD} {i : Nat} {k : FunD} {c n m : Int} (hl : ks.length ≤ 60) (hk : 0 ≤ k.1 ∧ k.1 ≤ 20) (ho : k.2.length ≤ 3000) (hf : ∀ n : Int, 0 ≤ freeAt ks n ∧ freeAt ks n ≤ 20) (h : opB ks i k c n m = true) : (0 ≤ c ∧ c ≤ 21) ∧ (-1073741824 ≤ n ∧ n ≤ 1073741823) ∧ 0 ≤ m ∧ m ≤ 3000 := by
  rw [opB_both] at h
  simp only [Bool.and_eq_true] at h
  have h1 := inB_yes h.1.1
  refine ⟨by omega, ?_, ?_⟩
  · have h2 := h.1.2
    unfold firstB at h2
    repeat' split at h2
    all_goals first | exact inB_yes h2 | (have := inB_yes h2; omega) | (simp only [Bool.and_eq_true, decide_eq_true_eq] at h2; omega)
  · have h2 := h.2
    unfold secondB at h2
    repeat' split at h2
    all_goals first | (have := inB_yes h2; omega) | (simp only [decide_eq_true_eq] at h2; have := hf n; omega) | (simp only [decide_eq_true_eq] at h2; omega)
theorem fun_parts {ks : List FunD} (h : funsB ks = true) {j : Nat} (hj : j < ks.length) : (0 ≤ ks[j].1 ∧ ks[j].1 ≤ 20) ∧ (1 ≤ ks[j].2.length ∧ ks[j].2.length ≤ 3000) ∧ ∀ q (hq : q < ks[j].2.length), (0 ≤ ks[j].2[q].1 ∧ ks[j].2[q].1 ≤ 21) ∧ (-1073741824 ≤ ks[j].2[q].2.1 ∧ ks[j].2[q].2.1 ≤ 1073741823) ∧ 0 ≤ ks[j].2[q].2.2 ∧ ks[j].2[q].2.2 ≤ 3000 := by
  have hlen := funs_len h
  unfold funsB at h
  simp only [Bool.and_eq_true] at h
  have all : ∀ z (hz : z < ks.length), funB ks z ks[z] = true := fun z hz => by
    have h2 := List.all_eq_true.1 h.2 z (List.mem_range.2 hz)
    rw [List.getElem?_eq_getElem hz] at h2
    exact h2
  have parts : ∀ z (hz : z < ks.length), (0 ≤ ks[z].1 ∧ ks[z].1 ≤ 20) ∧ (1 ≤ ks[z].2.length ∧ ks[z].2.length ≤ 3000) ∧ opsB ks z ks[z] ks[z].2 = true := fun z hz => by
    have h3 := all z hz
    unfold funB at h3
    simp only [Bool.and_eq_true] at h3
    have h4 := inB_yes h3.1.1.1
    have h5 := inB_yes h3.1.1.2
    exact ⟨h4, by omega, h3.1.2⟩
  have hf : ∀ n : Int, 0 ≤ freeAt ks n ∧ freeAt ks n ≤ 20 := fun n => by
    unfold freeAt
    rcases Nat.lt_or_ge n.toNat ks.length with q | q
    · rw [List.getElem?_eq_getElem q]; exact (parts _ q).1
    · rw [List.getElem?_eq_none q]; decide
  obtain ⟨p1, p2, p3⟩ := parts j hj
  refine ⟨p1, p2, fun q hq => op_in hlen.2 p1 p2.2 hf (i := j) (k := ks[j]) ?_⟩
  exact List.all_eq_true.1 p3 _ (List.getElem_mem hq)

end Go.Proofs.YtlfchmmkaflglaaDoor.fun

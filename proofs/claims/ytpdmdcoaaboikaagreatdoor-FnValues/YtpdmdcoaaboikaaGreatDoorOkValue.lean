/-
  The program's okValue, at every value and the map of kidsByCon: whether the value is right, its kids aside.
-/
import Derived.Test.YtpdmdcoaaboikaaGreatDoorValueOkDefs
import Derived.Test.YtpdmdcoaaboikaaGreatDoorKidsByCon
import Derived.Deep.QuietTactic
import Derived.BigQuiet
namespace Go.Proofs.YtpdmdcoaaboikaaGreatDoor.value
open Go Go.RowKit Go.Maps Go.Proofs.YtpdmdcoaaboikaaGreatDoor.rose Go.Proofs.YtpdmdcoaaboikaaGreatDoor
set_option linter.unusedVariables false
set_option linter.unusedSimpArgs false

theorem wordI_yes {n : Int} (h1 : -1073741824 ≤ n) (h2 : n ≤ 1073741823) : wordB n = true := by simp [wordB, h1, h2]
theorem wordI_no {n : Int} (h : ¬ (-1073741824 ≤ n ∧ n ≤ 1073741823)) : wordB n = false := by
  by_cases h1 : -1073741824 ≤ n
  · have : ¬ n ≤ 1073741823 := fun q => h ⟨h1, q⟩
    simp [wordB, h1, this]
  · simp [wordB, h1]
theorem implWordOk (n : Int) (w : World) : Calls Tryz.prog 52 #[.int .i64 n] w fun e w' => e = .returned (.bool (wordB n)) ∧ w' = w := by
  by_cases h1 : -1073741824 ≤ n
  · by_cases h2 : n ≤ 1073741823
    · have E : Hid (true = wordB n) := (wordI_yes h1 h2).symm
      go_enter Tryz.func52, Tryz.ntmps52
      go_wp2
      go_ret
      exact ⟨ret_b E.out, rfl⟩
    · have E : Hid (false = wordB n) := (wordI_no (by omega)).symm
      go_enter Tryz.func52, Tryz.ntmps52
      go_wp2
      go_ret
      exact ⟨ret_b E.out, rfl⟩
  · have E : Hid (false = wordB n) := (wordI_no (by omega)).symm
    go_enter Tryz.func52, Tryz.ntmps52
    go_wp2
    go_ret
    exact ⟨ret_b E.out, rfl⟩

theorem args_iff (ds : List DataD) (s : ByteArray) (m : Nat) : argsOf ds s = some m ↔ (data.spots 0 0 ds).any (data.named s) = true ∧ data.manyOf (data.spots 0 0 ds) s = m := by
  unfold argsOf data.manyOf
  cases hf : (data.spots 0 0 ds).find? (data.named s) with
  | none =>
    have : ¬ (data.spots 0 0 ds).any (data.named s) = true := fun q => by
      obtain ⟨y, hy, hyn⟩ := List.any_eq_true.1 q
      exact absurd hyn (List.find?_eq_none.1 hf y hy)
    simp [this]
  | some y =>
    have : (data.spots 0 0 ds).any (data.named s) = true := List.any_eq_true.2 ⟨y, List.mem_of_find?_eq_some hf, List.find?_some hf⟩
    simp [this]

theorem strI_no {s : ByteArray} (h : ¬ s = ⟨#[]⟩) : s.toList.isEmpty = false := by
  cases hs : s.toList with
  | nil => exact absurd (bytes_ext (by rw [hs, ByteArray.toList_eq])) h
  | cons a l => rfl

/-- A look-up whose answer is known. -/
theorem lookup_ok_known {P : Program} (w : World) {ops : Array Oper} {rest : List Oper} {o : Oper} {a : Act} {Q : Exit → Act → World → Prop}
    (hg : o.guard = none) (m x : Operand) (t : TypeId) (hop : o.op = Op.lookup t m x true)
    (k e : TypeId) (K : Keyed P k) (ht : P.underlying t = some (.map k e)) (he : P.underlying e = some (.int .i64)) (hz : (zeroValue e).run P w = .ok (.int .i64 0) w) (b n : Nat) (D : DataW Unit)
    (hm : a.eval m = .map (some b)) (hown : w.ownsMap P k (plainElem P e) b n D) (key : Value) (kl : Lit) (hx : a.eval x = key) (hkey : keyOf P k key = some kl) (c : Int) (hat : D.atKey kl (.lit (.int .i64 0)) = .lit (.int .i64 c)) (h : Bool) (hh : Maps.has D kl = h)
    (hK : wpList P ops Q rest (a.put o.dst (.tuple #[.int .i64 c, .bool h])) w) :
    wpList P ops Q (o :: rest) a w :=
  wpList_lookup_own_ok_int w hg m x t hop k e .i64 K ht he hz b n D hm hown key kl hx hkey fun c' h' _ => by
    rw [hat] at h'
    injection h' with h'
    injection h' with _ h'
    subst h' hh
    exact hK

theorem okI_1 {ds : List DataD} {n : Int} {s : ByteArray} {vs : List ValueD} : OkL ds (.mk (1, n, s) vs) ↔ wordB n = true ∧ s = ⟨#[]⟩ ∧ vs.length = 0 := by simp [OkL, Rose.x, Rose.kids]
theorem okI_3 {ds : List DataD} {n : Int} {s : ByteArray} {vs : List ValueD} : OkL ds (.mk (3, n, s) vs) ↔ n = 0 ∧ s = ⟨#[]⟩ ∧ vs.length = 0 := by simp [OkL, Rose.x, Rose.kids]
theorem okI_2 {ds : List DataD} {n : Int} {s : ByteArray} {vs : List ValueD} : OkL ds (.mk (2, n, s) vs) ↔ n = 0 ∧ argsOf ds s = some vs.length := by simp [OkL, Rose.x, Rose.kids]
theorem okI_no {ds : List DataD} {k n : Int} {s : ByteArray} {vs : List ValueD} (h1 : ¬ k = 1) (h2 : ¬ k = 2) (h3 : ¬ k = 3) : ¬ OkL ds (.mk (k, n, s) vs) := by simp [OkL, Rose.x, Rose.kids, h1, h2, h3]

/-- Whether it is right, kids aside. -/
noncomputable def locB (ds : List DataD) (V : ValueD) : Bool := @decide (OkL ds V) (Classical.propDecidable _)
theorem locB_true {ks : List DataD} {V : ValueD} (h : OkL ks V) : locB ks V = true := by unfold locB; exact @decide_eq_true _ (Classical.propDecidable _) h
theorem locB_false {ks : List DataD} {V : ValueD} (h : ¬ OkL ks V) : locB ks V = false := by unfold locB; exact @decide_eq_false _ (Classical.propDecidable _) h
theorem locB_iff {ks : List DataD} {V : ValueD} : locB ks V = true ↔ OkL ks V := by
  by_cases h : OkL ks V
  · simp [locB_true h, h]
  · simp [locB_false h, h]

set_option maxRecDepth 100000 in
set_option maxHeartbeats 4000000 in
theorem okValue_any (ds : List DataD) (x0 x1 : Int) (x2 : ByteArray) (ks : List ValueD) (a : Option Addr) (cap : Nat) (mb nm : Nat) (D : DataW Unit) (w : World) (hs : x2.size ≤ maxLen) (hn : (ks.length : Int) ≤ 9223372036854775807)
    (hM : w.ownsMap Tryz.prog 9 (plainElem Tryz.prog 3) mb nm D) (hA : data.Arity D (data.spots 0 0 ds)) :
    Calls Tryz.prog 32 #[.agg #[.int .i64 x0, .int .i64 x1, .string x2, .slice a ks.length cap], .map (some mb)] w fun e w' => e = .returned (.bool (locB ds (.mk (x0, x1, x2) ks))) ∧ Below w.heap.size w w' := by
  have B0 : Hid (Below w.heap.size w (w.alloc (.cells #[.int .i64 x0, .int .i64 x1, .string x2, .slice a ks.length cap] 26))) := (Below.refl _ _).alloc (Nat.le_refl _) _
  by_cases h1 : x0 = 1
  · subst h1
    have HO : Hid (∀ b : Bool, (b = true ↔ wordB x1 = true ∧ x2 = ⟨#[]⟩ ∧ ks.length = 0) → locB ds (.mk (1, x1, x2) ks) = b) := fun b hb => by
      have : locB ds (.mk (1, x1, x2) ks) = true ↔ b = true := locB_iff.trans (okI_1.trans hb.symm)
      cases b <;> simp_all
    have hcall := implWordOk x1 (w.alloc (.cells #[.int .i64 1, .int .i64 x1, .string x2, .slice a ks.length cap] 26))
    obtain ⟨wb, hwb⟩ : ∃ wb, wb = wordB x1 := ⟨_, rfl⟩
    rw [← hwb] at hcall
    have HWB : Hid (wb = wordB x1) := hwb
    clear hwb hM hA
    go_enter Tryz.func32, Tryz.ntmps32
    go_wp2_with fail
    refine hcall.mono ?_
    rintro e w1 ⟨rfl, rfl⟩
    clear hcall
    cases wb with
    | false =>
      have Q : Hid (locB ds (.mk (1, x1, x2) ks) = false) := HO.out false (by rw [← HWB.out]; simp)
      go_wp2
      go_ret
      exact ⟨ret_b Q.out.symm, B0.out⟩
    | true =>
      by_cases h2 : x2 = ⟨#[]⟩
      · subst h2
        by_cases h3 : ks.length = 0
        · have Q : Hid (locB ds (.mk (1, x1, ⟨#[]⟩) ks) = true) := HO.out true (by rw [← HWB.out]; simp [h3])
          have h4 : (ks.length : Int) = 0 := by omega
          go_wp2
          go_ret
          exact ⟨ret_b (by have q := Q.out; first | exact q.symm | (rw [q]; simp [h4]) | (rw [q]; simpa using h3)), (by first | exact B0.out | (have b := B0.out; rw [h3] at b; exact b))⟩
        · have Q : Hid (locB ds (.mk (1, x1, ⟨#[]⟩) ks) = false) := HO.out false (by rw [← HWB.out]; simpa using h3)
          have h4 : ¬ (ks.length : Int) = 0 := by omega
          go_wp2
          go_ret
          exact ⟨ret_b (by have q := Q.out; first | exact q.symm | (rw [q]; simpa using h4) | (rw [q]; simpa using h3)), B0.out⟩
      · have Q : Hid (locB ds (.mk (1, x1, x2) ks) = false) := HO.out false (by rw [← HWB.out]; simp [h2])
        have h4 := strI_no h2
        clear h2
        go_wp2
        go_ret
        exact ⟨ret_b Q.out.symm, B0.out⟩
  by_cases h3 : x0 = 3
  · subst h3
    clear hM hA
    have HO : Hid (∀ b : Bool, (b = true ↔ x1 = 0 ∧ x2 = ⟨#[]⟩ ∧ ks.length = 0) → locB ds (.mk (3, x1, x2) ks) = b) := fun b hb => by
      have : locB ds (.mk (3, x1, x2) ks) = true ↔ b = true := locB_iff.trans (okI_3.trans hb.symm)
      cases b <;> simp_all
    by_cases h0 : x1 = 0
    · subst h0
      by_cases h2 : x2 = ⟨#[]⟩
      · subst h2
        by_cases h3 : ks.length = 0
        · have Q : Hid (locB ds (.mk (3, 0, ⟨#[]⟩) ks) = true) := HO.out true (by simp [h3])
          have h4 : (ks.length : Int) = 0 := by omega
          go_enter Tryz.func32, Tryz.ntmps32
          go_wp2
          go_ret
          exact ⟨ret_b (by have q := Q.out; first | exact q.symm | (rw [q]; simp [h4]) | (rw [q]; simpa using h3)), (by first | exact B0.out | (have b := B0.out; rw [h3] at b; exact b))⟩
        · have Q : Hid (locB ds (.mk (3, 0, ⟨#[]⟩) ks) = false) := HO.out false (by simpa using h3)
          have h4 : ¬ (ks.length : Int) = 0 := by omega
          go_enter Tryz.func32, Tryz.ntmps32
          go_wp2
          go_ret
          exact ⟨ret_b (by have q := Q.out; first | exact q.symm | (rw [q]; simpa using h4) | (rw [q]; simpa using h3)), B0.out⟩
      · have Q : Hid (locB ds (.mk (3, 0, x2) ks) = false) := HO.out false (by simp [h2])
        have h4 := strI_no h2
        clear h2
        go_enter Tryz.func32, Tryz.ntmps32
        go_wp2
        go_ret
        exact ⟨ret_b Q.out.symm, B0.out⟩
    · have Q : Hid (locB ds (.mk (3, x1, x2) ks) = false) := HO.out false (by simp [h0])
      go_enter Tryz.func32, Tryz.ntmps32
      go_wp2
      go_ret
      exact ⟨ret_b Q.out.symm, B0.out⟩
  by_cases h2 : x0 = 2
  case neg =>
    have Q : Hid (locB ds (.mk (x0, x1, x2) ks) = false) := locB_false (okI_no h1 h2 h3)
    clear hM hA
    go_enter Tryz.func32, Tryz.ntmps32
    go_wp2
    go_ret
    exact ⟨ret_b Q.out.symm, B0.out⟩
  subst h2
  clear h1 h3
  have HO : Hid (∀ b : Bool, (b = true ↔ x1 = 0 ∧ argsOf ds x2 = some ks.length) → locB ds (.mk (2, x1, x2) ks) = b) := fun b hb => by
    have : locB ds (.mk (2, x1, x2) ks) = true ↔ b = true := locB_iff.trans (okI_2.trans hb.symm)
    cases b <;> simp_all
  have hkey : keyOf Tryz.prog 9 (.string x2) = some (data.kl x2) := WideMaps.keyOf_string_mk Tryz.underlying9 hs
  have hat := hA.at_ x2
  have hhas := hA.has x2
  have HI : Hid (∀ m, argsOf ds x2 = some m ↔ (data.spots 0 0 ds).any (data.named x2) = true ∧ data.manyOf (data.spots 0 0 ds) x2 = m) := args_iff ds x2
  obtain ⟨cnt, hcnt⟩ : ∃ cnt : Nat, cnt = data.manyOf (data.spots 0 0 ds) x2 := ⟨_, rfl⟩
  obtain ⟨any, hany⟩ : ∃ any, any = (data.spots 0 0 ds).any (data.named x2) := ⟨_, rfl⟩
  rw [← hcnt] at hat HI
  rw [← hany] at hhas HI
  have OW : Hid ((w.alloc (.cells #[.int .i64 2, .int .i64 x1, .string x2, .slice a ks.length cap] 26)).ownsMap Tryz.prog 9 (plainElem Tryz.prog 3) mb nm D) := hM.alloc _
  clear hcnt hany hM hA
  cases any with
  | false =>
    have Q : Hid (locB ds (.mk (2, x1, x2) ks) = false) := HO.out false (by rw [HI.out]; simp)
    go_enter Tryz.func32, Tryz.ntmps32
    go_wp2_with (first | (at_lookup; refine lookup_ok_known _ rfl _ _ 46 rfl 9 3 data.strKey Tryz.underlying46 Tryz.underlying3 (data.zeroInt _) mb nm _ rfl OW.out _ _ rfl hkey (cnt : Int) hat false hhas ?_) | go_in)
    go_ret
    exact ⟨ret_b Q.out.symm, B0.out⟩
  | true =>
    by_cases hl : cnt = ks.length
    · subst hl
      by_cases h0 : x1 = 0
      · subst h0
        have Q : Hid (locB ds (.mk (2, 0, x2) ks) = true) := HO.out true (by rw [HI.out]; simp)
        go_enter Tryz.func32, Tryz.ntmps32
        go_wp2_with (first | (at_lookup; refine lookup_ok_known _ rfl _ _ 46 rfl 9 3 data.strKey Tryz.underlying46 Tryz.underlying3 (data.zeroInt _) mb nm _ rfl OW.out _ _ rfl hkey _ hat true hhas ?_) | go_in)
        go_ret
        exact ⟨ret_b Q.out.symm, B0.out⟩
      · have Q : Hid (locB ds (.mk (2, x1, x2) ks) = false) := HO.out false (by simp [h0])
        have h0' : (x1 == 0) = false := by simpa using h0
        go_enter Tryz.func32, Tryz.ntmps32
        go_wp2_with (first | (at_lookup; refine lookup_ok_known _ rfl _ _ 46 rfl 9 3 data.strKey Tryz.underlying46 Tryz.underlying3 (data.zeroInt _) mb nm _ rfl OW.out _ _ rfl hkey _ hat true hhas ?_) | go_in)
        go_ret
        exact ⟨ret_b (by have q := Q.out; first | exact q.symm | (rw [q]; exact h0') | (rw [q]; simpa using h0)), B0.out⟩
    · have Q : Hid (locB ds (.mk (2, x1, x2) ks) = false) := HO.out false (by rw [HI.out]; simp [hl])
      have hl' : ((cnt : Int) == (ks.length : Int)) = false := by simp; omega
      have hl2 : ¬ (cnt : Int) = (ks.length : Int) := by omega
      go_enter Tryz.func32, Tryz.ntmps32
      go_wp2_with (first | (at_lookup; refine lookup_ok_known _ rfl _ _ 46 rfl 9 3 data.strKey Tryz.underlying46 Tryz.underlying3 (data.zeroInt _) mb nm _ rfl OW.out _ _ rfl hkey _ hat true hhas ?_) | go_in)
      go_ret
      exact ⟨ret_b Q.out.symm, B0.out⟩

end Go.Proofs.YtpdmdcoaaboikaaGreatDoor.value

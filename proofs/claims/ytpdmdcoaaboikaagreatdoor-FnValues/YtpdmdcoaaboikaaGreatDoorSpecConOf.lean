/-
  The model's ConOf, ConTag and TagCon, at every list of datas; nothing that was there is turned.
-/
import Derived.Test.YtpdmdcoaaboikaaGreatDoorSpots
import Derived.WalkKit
import Derived.WalkLawsBesides
import Derived.Deep.QuietTactic
import Derived.BigQuiet
namespace Go.Proofs.YtpdmdcoaaboikaaGreatDoor.data
open Go.RowKit Go.Proofs.YtpdmdcoaaboikaaGreatDoor.rose Go.Proofs.YtpdmdcoaaboikaaGreatDoor
set_option linter.unusedVariables false
set_option linter.unusedSimpArgs false

theorem ret_pair {a b c d : Int} (h1 : a = c) (h2 : b = d) : Ending.returned (.tuple #[.int .i64 a, .int .i64 b]) = Ending.returned (.tuple #[.int .i64 c, .int .i64 d]) := by rw [h1, h2]
theorem ret_int {a b : Int} (h : a = b) : Ending.returned (.int .i64 a) = Ending.returned (.int .i64 b) := by rw [h]

theorem wts_con {ks : List DataD} {i : Nat} (h : i < ks.length) : ks[i].2.2.length ≤ wts ks := by
  have h1 := wt_mem (List.getElem_mem h)
  have h2 : ks[i].2.2.length ≤ wt ks[i] := by
    obtain ⟨x0, x1, x2⟩ := ks[i]
    simp [wt]; omega
  omega

/-- None ahead of (i, j) has that name. -/
def NoneYet (ks : List DataD) (name : ByteArray) (i j : Nat) : Prop := ∀ y ∈ ahead ks i j, named name y = false

theorem yet_step {ks : List DataD} {name : ByteArray} {i j : Nat} (h : NoneYet ks name i j) (hi : i < ks.length) (hj : j < ks[i].2.2.length) (hn : (ks[i].2.2[j].1.toList == name.toList) = false) : NoneYet ks name i (j + 1) := by
  intro y hy
  rw [ahead_step hi hj, List.mem_append] at hy
  rcases hy with hy | hy
  · exact h y hy
  · simp at hy
    subst hy
    exact hn
theorem yet_next {ks : List DataD} {name : ByteArray} {i : Nat} (hi : i < ks.length) (h : NoneYet ks name i ks[i].2.2.length) : NoneYet ks name (i + 1) 0 := by
  unfold NoneYet at *
  rw [← ahead_next hi]
  exact h
theorem yet_found {ks : List DataD} {name : ByteArray} {i j : Nat} (h : NoneYet ks name i j) (hi : i < ks.length) (hj : j < ks[i].2.2.length) (hn : (ks[i].2.2[j].1.toList == name.toList) = true) : placeB ks name = (((total (ks.take i) + j : Nat) : Int), (i : Int), (j : Int)) := by
  unfold placeB
  rw [find_pre (x := ⟨total (ks.take i) + j, i, j, ks[i].2.2[j]⟩) (pre := ahead ks i j) (by rw [← ahead_step hi hj]; exact ahead_prefix hi hj) h hn]
  rfl
theorem yet_end {ks : List DataD} {name : ByteArray} (h : NoneYet ks name ks.length 0) : placeB ks name = (-1, -1, -1) := by
  unfold NoneYet at h
  rw [ahead_end] at h
  unfold placeB
  rw [find_no h]
  rfl

set_option maxRecDepth 100000 in
set_option maxHeartbeats 2000000 in
theorem specConOf (ks : List DataD) (v : Value) (name : ByteArray) (w : World) (hw : ks.length + wts ks ≤ 1048576) (h : dataSh.slice.rep w (· < w.heap.size) [v] ks) :
    Calls Tryz.prog 35 #[v, .string name] w fun e w' => e = .returned (.tuple #[.int .i64 (placeB ks name).2.1, .int .i64 (placeB ks name).2.2]) ∧ Below w.heap.size w w' := by
  obtain ⟨a, cap, css, rfl, hcap, hmax, hrow, hk⟩ := datas_open h
  clear h hcap hmax
  have HR : Hid (RowAt w (· < w.heap.size) 3 a ks.length css ∧ ∀ i (h : i < ks.length), dataSh.rep w (· < w.heap.size) (css i) ks[i]) := ⟨hrow, hk⟩
  clear hrow hk
  obtain ⟨p, hp⟩ : ∃ p, p = placeB ks name := ⟨_, rfl⟩
  have HP : Hid (p = placeB ks name) := hp
  rw [← hp]
  clear hp
  obtain ⟨p0, p1, p2⟩ := p
  go_enter Tryz.func35, Tryz.ntmps35
  go_wp2
  go_loopw [6] (fun v6 wr => ∃ i : Nat, i ≤ ks.length ∧ v6 = .int .i64 i ∧ Hid (NoneYet ks name i 0) ∧ wr = w) (fun v6 _ => ks.length - (intOf v6).toNat)
  case atStart => exact ⟨0, Nat.zero_le _, rfl, by intro y hy; simp [ahead_start] at hy, rfl⟩
  case round =>
    obtain ⟨i, hi, rfl, HA, rfl⟩ := hrel
    by_cases hlt : i < ks.length
    · obtain ⟨b, o, rfl, hS, hc⟩ := HR.out.1 i hlt
      obtain ⟨x0, x1, x2, a2, c2, hT, hcs, f0, f1, f2⟩ := data_open (HR.out.2 i hlt)
      rw [hcs] at hc
      have e2 := hc 2 _ rfl
      have hx2 : x2.length ≤ 1048576 := by
        have := wts_con hlt
        rw [hT] at this
        simp at this
        omega
      have HT : Hid (ks[i].2.2 = x2) := by show _ = _; rw [hT]
      have F2 : Hid _ := f2
      clear f2 hcs hc hT
      go_wp2
      go_loopw [7] (fun v7 wi => ∃ j : Nat, j ≤ x2.length ∧ v7 = .int .i64 j ∧ Hid (NoneYet ks name i j) ∧ wi = wr) (fun v7 _ => x2.length - (intOf v7).toNat)
      case atStart => exact ⟨0, Nat.zero_le _, rfl, HA, rfl⟩
      case round =>
        obtain ⟨j, hj, rfl, HAj, hwi⟩ := hrel
        rename World => wi
        subst hwi
        by_cases hlj : j < x2.length
        · obtain ⟨a1, cap1, cs1, ea, -, -, hrow, hk⟩ := con.cons_open F2.out
          cases ea
          obtain ⟨b2, o2, rfl, hS2, hc⟩ := hrow j hlj
          obtain ⟨y0, y1, a3, c3, hT, hcs, g0, g1⟩ := con.con_open (hk j hlj)
          rw [hcs] at hc
          have g2 : World.cell? _ ⟨b2, o2 + j * 2, none⟩ = some (.string y0) := hc 0 _ rfl
          have HN : Hid (∃ hj : j < ks[i].2.2.length, ks[i].2.2[j].1 = y0) := by
            refine ⟨by rw [HT.out]; exact hlj, ?_⟩
            simp only [HT.out]
            rw [hT]
          clear hcs hc hT hrow hk g1
          by_cases hn : (y0.toList == name.toList) = true
          · have HF : Hid ((p0, p1, p2) = (((total (ks.take i) + j : Nat) : Int), (i : Int), (j : Int))) := by
              obtain ⟨hj, hy⟩ := HN.out
              show _ = _
              rw [HP.out, yet_found HAj.out hlt hj (by rw [hy]; exact hn)]
            go_wp2
            go_ret2
            have := HF.out
            simp only [Prod.mk.injEq] at this
            exact ⟨ret_pair this.2.1.symm this.2.2.symm, Below.refl _ _⟩
          · have hn' : (y0.toList == name.toList) = false := by simpa using hn
            have HA2 : Hid (NoneYet ks name i (j + 1)) := by
              obtain ⟨hj, hy⟩ := HN.out
              exact yet_step HAj.out hlt hj (by rw [hy]; exact hn')
            go_wp2
            go_round
            case rel => exact ⟨j + 1, by omega, by go_num, HA2, by first | rfl | trivial⟩
            case measure => simp [intOf]; omega
        · obtain rfl : j = x2.length := by omega
          have HA2 : Hid (NoneYet ks name (i + 1) 0) := yet_next hlt (by rw [HT.out]; exact HAj.out)
          go_wp2
          go_round
          case rel => exact ⟨i + 1, by omega, by go_num, HA2, by first | rfl | trivial⟩
          case measure => simp [intOf]; omega
    · obtain rfl : i = ks.length := by omega
      have HF : Hid ((p0, p1, p2) = (-1, -1, -1)) := by show _ = _; rw [HP.out, yet_end HA.out]
      go_wp2
      go_ret2
      have := HF.out
      simp only [Prod.mk.injEq] at this
      exact ⟨ret_pair this.2.1.symm this.2.2.symm, Below.refl _ _⟩

end Go.Proofs.YtpdmdcoaaboikaaGreatDoor.data

/-
  The program's takeNum: a number is taken off the bytes; nothing but the place and the number is turned.
-/
import Derived.Test.YtlfchmmkaflglaaDoorGetNumSpec
import Derived.Test.YtlfchmmkaflglaaDoorBytesMk
import Derived.Test.YtlfchmmkaflglaaDoorWr
import Derived.Test.YtlfchmmkaflglaaDoorIsBelow
import Derived.Deep.RegionWith
import Derived.WalkSmall
namespace Go.Proofs.YtlfchmmkaflglaaDoor.byts
open Go Go.RowKit Go.Proofs.YtlfchmmkaflglaaDoor.rose Go.Proofs.YtlfchmmkaflglaaDoor Go.Proofs.YtlfchmmkaflglaaDoor.fun
set_option linter.unusedVariables false
set_option linter.unusedSimpArgs false

/-- The two cells that are written. -/
def Two (ga oa gn on_ : Nat) (k o : Nat) : Prop := (k = ga ∧ o = oa) ∨ (k = gn ∧ o = on_)
/-- What is held: the two cells, and all else as it was. -/
structure TN (w wr : World) (ga oa gn on_ : Nat) (p n : Int) : Prop where
  old : Wr (Two ga oa gn on_) w wr
  at_ : Cell wr ga oa (.int .i64 p)
  num : Cell wr gn on_ (.int .i64 n)
theorem TN.setA {w wr : World} {ga oa gn on_ : Nat} {p n : Int} (h : TN w wr ga oa gn on_ p n) (hne : ¬ (ga = gn ∧ oa = on_)) (x : Int) : TN w (wr.setCell ⟨ga, oa, none⟩ (.int .i64 x)) ga oa gn on_ x n :=
  ⟨h.old.trans (Wr.set wr ga oa _ (.inl ⟨rfl, rfl⟩)), h.at_.set _, h.num.other _ fun e => hne ⟨e.1.symm, e.2.symm⟩⟩
theorem TN.setN {w wr : World} {ga oa gn on_ : Nat} {p n : Int} (h : TN w wr ga oa gn on_ p n) (hne : ¬ (ga = gn ∧ oa = on_)) (x : Int) : TN w (wr.setCell ⟨gn, on_, none⟩ (.int .i64 x)) ga oa gn on_ p x :=
  ⟨h.old.trans (Wr.set wr gn on_ _ (.inr ⟨rfl, rfl⟩)), h.at_.other _ hne, h.num.set _⟩
theorem TN.drew {w wr : World} {ga oa gn on_ : Nat} {p n : Int} (h : TN w wr ga oa gn on_ p n) : TN w wr.drew ga oa gn on_ p n := ⟨h.old.drew, h.at_, h.num⟩
/-- What is told of a number that was taken. -/
def Took (b : List Int) (p q n : Int) : Prop := (getB b p).2.2 = true → q = (getB b p).2.1 ∧ n = (getB b p).1

set_option maxRecDepth 100000 in
set_option maxHeartbeats 16000000 in
theorem takeNum_any (b : List Int) (p : Int) (v u0 : Value) (ga oa gn on_ : Nat) (w : World) (hl : b.length ≤ 1048576) (h1 : -9223372036854775808 ≤ p) (h2 : p ≤ 9223372036854775807) (h : bytesSh.rep w (fun k => k < w.heap.size ∧ k ≠ ga ∧ k ≠ gn) [v] b)
    (ha : Cell w ga oa (.int .i64 p)) (hn : Cell w gn on_ u0) (hne : ¬ (ga = gn ∧ oa = on_)) :
    Calls Tryd.prog 36 #[v, .pointer (some ⟨ga, oa, none⟩), .pointer (some ⟨gn, on_, none⟩)] w fun e w' => e = .returned (.bool (getB b p).2.2) ∧ ∃ q n, TN w w' ga oa gn on_ q n ∧ Took b p q n := by
  obtain ⟨a, cap, rfl, hcap, hmax, hat⟩ := bytes_open h
  have HA : Hid _ := hat
  clear h hcap hmax hat
  obtain ⟨r, hr⟩ : ∃ r, r = (getB b p).2.2 := ⟨_, rfl⟩
  rw [← hr]
  have HR : Hid (r = (getB b p).2.2) := hr
  have NE : Hid (¬ (ga = gn ∧ oa = on_)) := hne
  have T0 : Hid (TN w (w.setCell ⟨gn, on_, none⟩ (.int .i64 0)) ga oa gn on_ p 0) := ⟨Wr.set w gn on_ _ (.inr ⟨rfl, rfl⟩), ha.other _ hne, hn.set _⟩
  have cn0 : w.cell? ⟨gn, on_, none⟩ = some u0 := hn.cell
  have fn0 : w.frozen? ⟨gn, on_, none⟩ = false := hn.frz
  have hbl : (b.length : Int) ≤ 1048576 := by omega
  clear hr ha hn hne
  rcases q0 : inB p 0 ((b.length : Int) - 1) with _ | _
  · have HQ : Hid (r = false) := by
      show _ = _; rw [HR.out]
      by_cases hp : p < 0
      · unfold getB; rw [if_pos hp]
      · obtain ⟨z, rfl⟩ : ∃ z : Nat, p = z := ⟨p.toNat, by omega⟩
        have := inB_no q0
        rw [getB_none (by rw [List.drop_eq_nil_of_le (by omega)]; rfl)]
    have HT : Hid (∀ q n, Took b p q n) := fun q n e => by rw [← HR.out, HQ.out] at e; cases e
    go_enter Tryd.func36, Tryd.ntmps36
    go_wp2
    clear cn0 fn0
    go_loopw [7] (fun v7 wr => v7 = .int .i64 0 ∧ Hid (TN w wr ga oa gn on_ p 0)) (fun v7 _ => 5 - (intOf v7).toNat)
    case atStart => exact ⟨rfl, T0.out⟩
    case round =>
      obtain ⟨rfl, HT1⟩ := hrel
      have ca : wr.cell? ⟨ga, oa, none⟩ = some (.int .i64 p) := HT1.out.at_.cell
      go_wp2_with (go_at_call 47; refine (bel_is q0 (by omega)).mono ?_; rintro e w' ⟨rfl, hx⟩; subst w')
      refine bodyPost_ret (v := .bool false) (by simp [results, Tryd.f36, go_sem]) rfl ?_
      rw [HQ.out]
      exact ⟨rfl, p, 0, HT1.out, HT.out p 0⟩
  · have q1 := inB_yes q0
    obtain ⟨z, rfl⟩ : ∃ z : Nat, p = z := ⟨p.toNat, by omega⟩
    have hzb : (z : Int) < b.length := by omega
    clear q0 q1
    go_enter Tryd.func36, Tryd.ntmps36
    go_wp2
    clear cn0 fn0
    go_loopw [7] (fun v7 wr => ∃ (k acc : Nat), k ≤ 5 ∧ v7 = .int .i64 ((7 * k : Nat) : Int) ∧ Hid (acc < 128 ^ k) ∧  Hid (TN w wr ga oa gn on_ ((z + k : Nat) : Int) (acc : Int)) ∧ Hid (getF (b.drop z) 0 0 = getF (b.drop (z + k)) k acc)) (fun v7 _ => 35 - (intOf v7).toNat)
    case atStart => exact ⟨0, 0, by omega, rfl, (by show _ < _; decide), T0.out, (by show _ = _; rfl)⟩
    case round =>
      obtain ⟨k, acc, hk, rfl, hacc, HT0, HG⟩ := hrel
      rcases (by omega : k = 0 ∨ k = 1 ∨ k = 2 ∨ k = 3 ∨ k = 4 ∨ k = 5) with rfl | rfl | rfl | rfl | rfl | rfl
      · have HT1 : Hid (TN w wr ga oa gn on_ (z : Int) (acc : Int)) := by show TN _ _ _ _ _ _ _ _; have := HT0.out; simpa using this
        clear HT0
        have ca : wr.cell? ⟨ga, oa, none⟩ = some (.int .i64 (z : Int)) := HT1.out.at_.cell
        by_cases hout : b.length ≤ z
        · have q2 : inB (z : Int) 0 ((b.length : Int) - 1) = false := by
            have : decide ((z : Int) ≤ (b.length : Int) - 1) = false := decide_eq_false (by omega)
            simp only [inB, this, Bool.and_false]
          have HQ : Hid (r = false) := by show _ = _; rw [HR.out, getB_none (by rw [HG.out, List.drop_eq_nil_of_le (by omega)]; rfl)]
          have HT : Hid (∀ q n, Took b z q n) := fun q n e => by rw [← HR.out, HQ.out] at e; cases e
          go_wp2_with (go_at_call 47; refine (bel_is q2 (by omega)).mono ?_; rintro e w' ⟨rfl, hx⟩; subst w')
          refine bodyPost_ret (v := .bool false) (by simp [results, Tryd.f36, go_sem]) rfl ?_
          rw [HQ.out]
          exact ⟨rfl, _, _, HT1.out, HT.out _ _⟩
        · have hin : z < b.length := by omega
          have q2 : inB (z : Int) 0 ((b.length : Int) - 1) = true := by simp [inB]; omega
          obtain ⟨g, o, rfl, hS, hc, hd1, hd2⟩ := HA.out (z) hin
          have hcw : wr.heap[g]? = w.heap[g]? := HT1.out.old.block g fun o ho => ho.elim (fun e => hS.2.1 e.1) fun e => hS.2.2 e.1
          have hcb : wr.cell? ⟨g, o + (z), none⟩ = some (.int .u8 b[z]) := (World.cell?_of_block (a := ⟨g, o + (z), none⟩) hcw).trans hc
          have HD : Hid (b.drop (z) = b[z] :: b.drop (z + 1)) := List.drop_eq_getElem_cons hin
          generalize b[z] = d at hcb hd1 hd2 HD
          clear hc hcw
          obtain ⟨dn, rfl⟩ : ∃ dn : Nat, d = dn := ⟨d.toNat, by omega⟩
          have hpk : (z : Int) < (b.length : Int) := by omega
          have hac : acc < 128 ^ 0 := hacc.out
          obtain ⟨n, hn⟩ : ∃ n : Nat, n = acc + dn % 128 * 128 ^ 0 := ⟨_, rfl⟩
          have hnb : n < 128 ^ 1 := by omega
          have T2 : Hid (TN w (wr.setCell ⟨ga, oa, none⟩ (.int .i64 ((z : Int) + 1))) ga oa gn on_ ((z : Int) + 1) (acc : Int)) := HT1.out.setA NE.out _
          have T3 : Hid (TN w ((wr.setCell ⟨ga, oa, none⟩ (.int .i64 ((z : Int) + 1))).setCell ⟨gn, on_, none⟩ (.int .i64 (n : Int))) ga oa gn on_ ((z : Int) + 1) (n : Int)) := T2.out.setN NE.out _
          have fa : wr.frozen? ⟨ga, oa, none⟩ = false := HT1.out.at_.frz
          have hz1 : IntKind.i64.wrap ((z : Int) + 1) = ((z : Int) + 1) := by rw [IntKind.wrap_i64]; omega
          have cn : (wr.setCell ⟨ga, oa, none⟩ (.int .i64 ((z : Int) + 1))).cell? ⟨gn, on_, none⟩ = some (.int .i64 (acc : Int)) := T2.out.num.cell
          have fn : (wr.setCell ⟨ga, oa, none⟩ (.int .i64 ((z : Int) + 1))).frozen? ⟨gn, on_, none⟩ = false := T2.out.num.frz
          have hadd : (acc : Int) + (dn : Int) % 128 = (n : Int) := by omega
          have cn3 : ((wr.setCell ⟨ga, oa, none⟩ (.int .i64 ((z : Int) + 1))).setCell ⟨gn, on_, none⟩ (.int .i64 (n : Int))).cell? ⟨gn, on_, none⟩ = some (.int .i64 (n : Int)) := T3.out.num.cell
          have cn4 : ((wr.setCell ⟨ga, oa, none⟩ (.int .i64 ((z : Int) + 1))).setCell ⟨gn, on_, none⟩ (.int .i64 (n : Int))).drew.cell? ⟨gn, on_, none⟩ = some (.int .i64 (n : Int)) := T3.out.num.cell
          have HN : Hid (n = acc + dn % 128 * 128 ^ 0 ∧ n < 128 ^ 1) := ⟨hn, hnb⟩
          have HG2 : Hid (getF (b.drop z) 0 0 = getF ((dn : Int) :: b.drop (z + 1)) 0 acc) := by show _ = _; rw [HG.out]; exact congrArg (fun l => getF l 0 acc) HD.out
          have hn63 : n ≤ 9223372036854775807 := by omega
          clear hn hnb hac hin hout hd1
          by_cases hlo : dn < 128
          · have t3 : decide ((dn : Int) < 128) = true := by simp; omega
            have HL := HG2.out.trans (getF_last (by omega) hlo HN.out.1)
            have HQ : Hid (r = (decide ((n : Int) ≤ 2147483647) && (decide (0 < (dn : Int)) || true)) ∧ Took b z ((z : Int) + 1) (n : Int)) := by
              by_cases hbad : (0 < 0 ∧ dn = 0) ∨ 2147483647 < n
              · rw [if_pos hbad] at HL
                refine ⟨?_, fun e => by rw [getB_none HL] at e; cases e⟩
                rw [HR.out, getB_none HL]
                symm
                rcases hbad with ⟨h0, rfl⟩ | h0
                · first | (simp at h0; done) | simp
                · have : decide ((n : Int) ≤ 2147483647) = false := decide_eq_false (by omega)
                  rw [this, Bool.false_and]
              · rw [if_neg hbad] at HL
                refine ⟨?_, fun e => by rw [getB_some HL]; exact ⟨by push_cast; omega, rfl⟩⟩
                rw [HR.out, getB_some HL]
                symm
                have e1 : decide ((n : Int) ≤ 2147483647) = true := decide_eq_true (by omega)
                rw [e1, Bool.true_and]
                first | (simp; done) | (have e2 : decide (0 < (dn : Int)) = true := decide_eq_true (by omega)
                                        rw [e2, Bool.true_or])
            clear HL HG2 HN HD HG
            rcases q5 : decide ((n : Int) ≤ 2147483647) with _ | _
            · rw [q5] at HQ
              go_wp2_with (go_at_call 47; refine (bel_is q2 (by omega)).mono ?_; rintro e w' ⟨rfl, hx⟩; subst w')
              (try go_region)
              go_wp2
              refine bodyPost_ret (v := .bool false) (by simp [results, Tryd.f36, go_sem]) rfl ?_
              rw [HQ.out.1]
              exact ⟨ret_boolI (by simp), _, _, T3.out.drew, HQ.out.2⟩
            · rcases q6 : decide (0 < (dn : Int)) with _ | _
              · rw [q5, q6] at HQ
                have q7 : decide (0 < dn) = false := by simpa using q6
                go_wp2_with (go_at_call 47; refine (bel_is q2 (by omega)).mono ?_; rintro e w' ⟨rfl, hx⟩; subst w')
                (try go_region)
                go_wp2
                refine bodyPost_ret (v := .bool true) (by simp [results, Tryd.f36, go_sem]) rfl ?_
                rw [HQ.out.1]
                exact ⟨ret_boolI (by simp), _, _, T3.out.drew, HQ.out.2⟩
              · rw [q5, q6] at HQ
                have q7 : decide (0 < dn) = true := by simpa using q6
                go_wp2_with (go_at_call 47; refine (bel_is q2 (by omega)).mono ?_; rintro e w' ⟨rfl, hx⟩; subst w')
                (try go_region)
                go_wp2
                refine bodyPost_ret (v := .bool true) (by simp [results, Tryd.f36, go_sem]) rfl ?_
                rw [HQ.out.1]
                exact ⟨ret_boolI (by simp), _, _, T3.out.drew, HQ.out.2⟩
          · have t3 : decide ((dn : Int) < 128) = false := by simp; omega
            have HM : Hid (getF (b.drop z) 0 0 = getF (b.drop (z + 1)) 1 n) := HG2.out.trans (getF_more (by omega) (by omega) HN.out.1)
            go_wp2_with (go_at_call 47; refine (bel_is q2 (by omega)).mono ?_; rintro e w' ⟨rfl, hx⟩; subst w')
            (try go_region)
            go_wp2
            go_round
            case rel => exact ⟨1, n, by omega, by go_num, HN.out.2, (by show TN _ _ _ _ _ _ _ _; have := T3.out.drew; simpa using this), HM⟩
            case measure => simp [intOf]
      · have HT1 : Hid (TN w wr ga oa gn on_ ((z : Int) + 1) (acc : Int)) := by show TN _ _ _ _ _ _ _ _; have := HT0.out; simpa using this
        clear HT0
        have ca : wr.cell? ⟨ga, oa, none⟩ = some (.int .i64 ((z : Int) + 1)) := HT1.out.at_.cell
        by_cases hout : b.length ≤ z + 1
        · have q2 : inB ((z : Int) + 1) 0 ((b.length : Int) - 1) = false := by
            have : decide (((z : Int) + 1) ≤ (b.length : Int) - 1) = false := decide_eq_false (by omega)
            simp only [inB, this, Bool.and_false]
          have HQ : Hid (r = false) := by show _ = _; rw [HR.out, getB_none (by rw [HG.out, List.drop_eq_nil_of_le (by omega)]; rfl)]
          have HT : Hid (∀ q n, Took b z q n) := fun q n e => by rw [← HR.out, HQ.out] at e; cases e
          go_wp2_with (go_at_call 47; refine (bel_is q2 (by omega)).mono ?_; rintro e w' ⟨rfl, hx⟩; subst w')
          refine bodyPost_ret (v := .bool false) (by simp [results, Tryd.f36, go_sem]) rfl ?_
          rw [HQ.out]
          exact ⟨rfl, _, _, HT1.out, HT.out _ _⟩
        · have hin : z + 1 < b.length := by omega
          have q2 : inB ((z : Int) + 1) 0 ((b.length : Int) - 1) = true := by simp [inB]; omega
          obtain ⟨g, o, rfl, hS, hc, hd1, hd2⟩ := HA.out (z + 1) hin
          have hcw : wr.heap[g]? = w.heap[g]? := HT1.out.old.block g fun o ho => ho.elim (fun e => hS.2.1 e.1) fun e => hS.2.2 e.1
          have hcb : wr.cell? ⟨g, o + (z + 1), none⟩ = some (.int .u8 b[z + 1]) := (World.cell?_of_block (a := ⟨g, o + (z + 1), none⟩) hcw).trans hc
          have HD : Hid (b.drop (z + 1) = b[z + 1] :: b.drop (z + 1 + 1)) := List.drop_eq_getElem_cons hin
          generalize b[z + 1] = d at hcb hd1 hd2 HD
          clear hc hcw
          obtain ⟨dn, rfl⟩ : ∃ dn : Nat, d = dn := ⟨d.toNat, by omega⟩
          have hpk : ((z : Int) + 1) < (b.length : Int) := by omega
          have hac : acc < 128 ^ 1 := hacc.out
          obtain ⟨n, hn⟩ : ∃ n : Nat, n = acc + dn % 128 * 128 ^ 1 := ⟨_, rfl⟩
          have hnb : n < 128 ^ 2 := by omega
          have T2 : Hid (TN w (wr.setCell ⟨ga, oa, none⟩ (.int .i64 ((z : Int) + 2))) ga oa gn on_ ((z : Int) + 2) (acc : Int)) := HT1.out.setA NE.out _
          have T3 : Hid (TN w ((wr.setCell ⟨ga, oa, none⟩ (.int .i64 ((z : Int) + 2))).setCell ⟨gn, on_, none⟩ (.int .i64 (n : Int))) ga oa gn on_ ((z : Int) + 2) (n : Int)) := T2.out.setN NE.out _
          have fa : wr.frozen? ⟨ga, oa, none⟩ = false := HT1.out.at_.frz
          have hz1 : IntKind.i64.wrap (((z : Int) + 1) + 1) = ((z : Int) + 2) := by rw [IntKind.wrap_i64]; omega
          have cn : (wr.setCell ⟨ga, oa, none⟩ (.int .i64 ((z : Int) + 2))).cell? ⟨gn, on_, none⟩ = some (.int .i64 (acc : Int)) := T2.out.num.cell
          have fn : (wr.setCell ⟨ga, oa, none⟩ (.int .i64 ((z : Int) + 2))).frozen? ⟨gn, on_, none⟩ = false := T2.out.num.frz
          have hadd : (acc : Int) + (dn : Int) % 128 * 128 = (n : Int) := by omega
          have cn3 : ((wr.setCell ⟨ga, oa, none⟩ (.int .i64 ((z : Int) + 2))).setCell ⟨gn, on_, none⟩ (.int .i64 (n : Int))).cell? ⟨gn, on_, none⟩ = some (.int .i64 (n : Int)) := T3.out.num.cell
          have cn4 : ((wr.setCell ⟨ga, oa, none⟩ (.int .i64 ((z : Int) + 2))).setCell ⟨gn, on_, none⟩ (.int .i64 (n : Int))).drew.cell? ⟨gn, on_, none⟩ = some (.int .i64 (n : Int)) := T3.out.num.cell
          have HN : Hid (n = acc + dn % 128 * 128 ^ 1 ∧ n < 128 ^ 2) := ⟨hn, hnb⟩
          have HG2 : Hid (getF (b.drop z) 0 0 = getF ((dn : Int) :: b.drop (z + 1 + 1)) 1 acc) := by show _ = _; rw [HG.out]; exact congrArg (fun l => getF l 1 acc) HD.out
          have hn63 : n ≤ 9223372036854775807 := by omega
          clear hn hnb hac hin hout hd1
          by_cases hlo : dn < 128
          · have t3 : decide ((dn : Int) < 128) = true := by simp; omega
            have HL := HG2.out.trans (getF_last (by omega) hlo HN.out.1)
            have HQ : Hid (r = (decide ((n : Int) ≤ 2147483647) && (decide (0 < (dn : Int)) || false)) ∧ Took b z ((z : Int) + 2) (n : Int)) := by
              by_cases hbad : (0 < 1 ∧ dn = 0) ∨ 2147483647 < n
              · rw [if_pos hbad] at HL
                refine ⟨?_, fun e => by rw [getB_none HL] at e; cases e⟩
                rw [HR.out, getB_none HL]
                symm
                rcases hbad with ⟨h0, rfl⟩ | h0
                · first | (simp at h0; done) | simp
                · have : decide ((n : Int) ≤ 2147483647) = false := decide_eq_false (by omega)
                  rw [this, Bool.false_and]
              · rw [if_neg hbad] at HL
                refine ⟨?_, fun e => by rw [getB_some HL]; exact ⟨by push_cast; omega, rfl⟩⟩
                rw [HR.out, getB_some HL]
                symm
                have e1 : decide ((n : Int) ≤ 2147483647) = true := decide_eq_true (by omega)
                rw [e1, Bool.true_and]
                first | (simp; done) | (have e2 : decide (0 < (dn : Int)) = true := decide_eq_true (by omega)
                                        rw [e2, Bool.true_or])
            clear HL HG2 HN HD HG
            rcases q5 : decide ((n : Int) ≤ 2147483647) with _ | _
            · rw [q5] at HQ
              go_wp2_with (go_at_call 47; refine (bel_is q2 (by omega)).mono ?_; rintro e w' ⟨rfl, hx⟩; subst w')
              (try go_region)
              go_wp2
              refine bodyPost_ret (v := .bool false) (by simp [results, Tryd.f36, go_sem]) rfl ?_
              rw [HQ.out.1]
              exact ⟨ret_boolI (by simp), _, _, T3.out.drew, HQ.out.2⟩
            · rcases q6 : decide (0 < (dn : Int)) with _ | _
              · rw [q5, q6] at HQ
                have q7 : decide (0 < dn) = false := by simpa using q6
                go_wp2_with (go_at_call 47; refine (bel_is q2 (by omega)).mono ?_; rintro e w' ⟨rfl, hx⟩; subst w')
                (try go_region)
                go_wp2
                refine bodyPost_ret (v := .bool false) (by simp [results, Tryd.f36, go_sem]) rfl ?_
                rw [HQ.out.1]
                exact ⟨ret_boolI (by simp), _, _, T3.out.drew, HQ.out.2⟩
              · rw [q5, q6] at HQ
                have q7 : decide (0 < dn) = true := by simpa using q6
                go_wp2_with (go_at_call 47; refine (bel_is q2 (by omega)).mono ?_; rintro e w' ⟨rfl, hx⟩; subst w')
                (try go_region)
                go_wp2
                refine bodyPost_ret (v := .bool true) (by simp [results, Tryd.f36, go_sem]) rfl ?_
                rw [HQ.out.1]
                exact ⟨ret_boolI (by simp), _, _, T3.out.drew, HQ.out.2⟩
          · have t3 : decide ((dn : Int) < 128) = false := by simp; omega
            have HM : Hid (getF (b.drop z) 0 0 = getF (b.drop (z + 2)) 2 n) := HG2.out.trans (getF_more (by omega) (by omega) HN.out.1)
            go_wp2_with (go_at_call 47; refine (bel_is q2 (by omega)).mono ?_; rintro e w' ⟨rfl, hx⟩; subst w')
            (try go_region)
            go_wp2
            go_round
            case rel => exact ⟨2, n, by omega, by go_num, HN.out.2, (by show TN _ _ _ _ _ _ _ _; have := T3.out.drew; simpa using this), HM⟩
            case measure => simp [intOf]
      · have HT1 : Hid (TN w wr ga oa gn on_ ((z : Int) + 2) (acc : Int)) := by show TN _ _ _ _ _ _ _ _; have := HT0.out; simpa using this
        clear HT0
        have ca : wr.cell? ⟨ga, oa, none⟩ = some (.int .i64 ((z : Int) + 2)) := HT1.out.at_.cell
        by_cases hout : b.length ≤ z + 2
        · have q2 : inB ((z : Int) + 2) 0 ((b.length : Int) - 1) = false := by
            have : decide (((z : Int) + 2) ≤ (b.length : Int) - 1) = false := decide_eq_false (by omega)
            simp only [inB, this, Bool.and_false]
          have HQ : Hid (r = false) := by show _ = _; rw [HR.out, getB_none (by rw [HG.out, List.drop_eq_nil_of_le (by omega)]; rfl)]
          have HT : Hid (∀ q n, Took b z q n) := fun q n e => by rw [← HR.out, HQ.out] at e; cases e
          go_wp2_with (go_at_call 47; refine (bel_is q2 (by omega)).mono ?_; rintro e w' ⟨rfl, hx⟩; subst w')
          refine bodyPost_ret (v := .bool false) (by simp [results, Tryd.f36, go_sem]) rfl ?_
          rw [HQ.out]
          exact ⟨rfl, _, _, HT1.out, HT.out _ _⟩
        · have hin : z + 2 < b.length := by omega
          have q2 : inB ((z : Int) + 2) 0 ((b.length : Int) - 1) = true := by simp [inB]; omega
          obtain ⟨g, o, rfl, hS, hc, hd1, hd2⟩ := HA.out (z + 2) hin
          have hcw : wr.heap[g]? = w.heap[g]? := HT1.out.old.block g fun o ho => ho.elim (fun e => hS.2.1 e.1) fun e => hS.2.2 e.1
          have hcb : wr.cell? ⟨g, o + (z + 2), none⟩ = some (.int .u8 b[z + 2]) := (World.cell?_of_block (a := ⟨g, o + (z + 2), none⟩) hcw).trans hc
          have HD : Hid (b.drop (z + 2) = b[z + 2] :: b.drop (z + 2 + 1)) := List.drop_eq_getElem_cons hin
          generalize b[z + 2] = d at hcb hd1 hd2 HD
          clear hc hcw
          obtain ⟨dn, rfl⟩ : ∃ dn : Nat, d = dn := ⟨d.toNat, by omega⟩
          have hpk : ((z : Int) + 2) < (b.length : Int) := by omega
          have hac : acc < 128 ^ 2 := hacc.out
          obtain ⟨n, hn⟩ : ∃ n : Nat, n = acc + dn % 128 * 128 ^ 2 := ⟨_, rfl⟩
          have hnb : n < 128 ^ 3 := by omega
          have T2 : Hid (TN w (wr.setCell ⟨ga, oa, none⟩ (.int .i64 ((z : Int) + 3))) ga oa gn on_ ((z : Int) + 3) (acc : Int)) := HT1.out.setA NE.out _
          have T3 : Hid (TN w ((wr.setCell ⟨ga, oa, none⟩ (.int .i64 ((z : Int) + 3))).setCell ⟨gn, on_, none⟩ (.int .i64 (n : Int))) ga oa gn on_ ((z : Int) + 3) (n : Int)) := T2.out.setN NE.out _
          have fa : wr.frozen? ⟨ga, oa, none⟩ = false := HT1.out.at_.frz
          have hz1 : IntKind.i64.wrap (((z : Int) + 2) + 1) = ((z : Int) + 3) := by rw [IntKind.wrap_i64]; omega
          have cn : (wr.setCell ⟨ga, oa, none⟩ (.int .i64 ((z : Int) + 3))).cell? ⟨gn, on_, none⟩ = some (.int .i64 (acc : Int)) := T2.out.num.cell
          have fn : (wr.setCell ⟨ga, oa, none⟩ (.int .i64 ((z : Int) + 3))).frozen? ⟨gn, on_, none⟩ = false := T2.out.num.frz
          have hadd : (acc : Int) + (dn : Int) % 128 * 16384 = (n : Int) := by omega
          have cn3 : ((wr.setCell ⟨ga, oa, none⟩ (.int .i64 ((z : Int) + 3))).setCell ⟨gn, on_, none⟩ (.int .i64 (n : Int))).cell? ⟨gn, on_, none⟩ = some (.int .i64 (n : Int)) := T3.out.num.cell
          have cn4 : ((wr.setCell ⟨ga, oa, none⟩ (.int .i64 ((z : Int) + 3))).setCell ⟨gn, on_, none⟩ (.int .i64 (n : Int))).drew.cell? ⟨gn, on_, none⟩ = some (.int .i64 (n : Int)) := T3.out.num.cell
          have HN : Hid (n = acc + dn % 128 * 128 ^ 2 ∧ n < 128 ^ 3) := ⟨hn, hnb⟩
          have HG2 : Hid (getF (b.drop z) 0 0 = getF ((dn : Int) :: b.drop (z + 2 + 1)) 2 acc) := by show _ = _; rw [HG.out]; exact congrArg (fun l => getF l 2 acc) HD.out
          have hn63 : n ≤ 9223372036854775807 := by omega
          clear hn hnb hac hin hout hd1
          by_cases hlo : dn < 128
          · have t3 : decide ((dn : Int) < 128) = true := by simp; omega
            have HL := HG2.out.trans (getF_last (by omega) hlo HN.out.1)
            have HQ : Hid (r = (decide ((n : Int) ≤ 2147483647) && (decide (0 < (dn : Int)) || false)) ∧ Took b z ((z : Int) + 3) (n : Int)) := by
              by_cases hbad : (0 < 2 ∧ dn = 0) ∨ 2147483647 < n
              · rw [if_pos hbad] at HL
                refine ⟨?_, fun e => by rw [getB_none HL] at e; cases e⟩
                rw [HR.out, getB_none HL]
                symm
                rcases hbad with ⟨h0, rfl⟩ | h0
                · first | (simp at h0; done) | simp
                · have : decide ((n : Int) ≤ 2147483647) = false := decide_eq_false (by omega)
                  rw [this, Bool.false_and]
              · rw [if_neg hbad] at HL
                refine ⟨?_, fun e => by rw [getB_some HL]; exact ⟨by push_cast; omega, rfl⟩⟩
                rw [HR.out, getB_some HL]
                symm
                have e1 : decide ((n : Int) ≤ 2147483647) = true := decide_eq_true (by omega)
                rw [e1, Bool.true_and]
                first | (simp; done) | (have e2 : decide (0 < (dn : Int)) = true := decide_eq_true (by omega)
                                        rw [e2, Bool.true_or])
            clear HL HG2 HN HD HG
            rcases q5 : decide ((n : Int) ≤ 2147483647) with _ | _
            · rw [q5] at HQ
              go_wp2_with (go_at_call 47; refine (bel_is q2 (by omega)).mono ?_; rintro e w' ⟨rfl, hx⟩; subst w')
              (try go_region)
              go_wp2
              refine bodyPost_ret (v := .bool false) (by simp [results, Tryd.f36, go_sem]) rfl ?_
              rw [HQ.out.1]
              exact ⟨ret_boolI (by simp), _, _, T3.out.drew, HQ.out.2⟩
            · rcases q6 : decide (0 < (dn : Int)) with _ | _
              · rw [q5, q6] at HQ
                have q7 : decide (0 < dn) = false := by simpa using q6
                go_wp2_with (go_at_call 47; refine (bel_is q2 (by omega)).mono ?_; rintro e w' ⟨rfl, hx⟩; subst w')
                (try go_region)
                go_wp2
                refine bodyPost_ret (v := .bool false) (by simp [results, Tryd.f36, go_sem]) rfl ?_
                rw [HQ.out.1]
                exact ⟨ret_boolI (by simp), _, _, T3.out.drew, HQ.out.2⟩
              · rw [q5, q6] at HQ
                have q7 : decide (0 < dn) = true := by simpa using q6
                go_wp2_with (go_at_call 47; refine (bel_is q2 (by omega)).mono ?_; rintro e w' ⟨rfl, hx⟩; subst w')
                (try go_region)
                go_wp2
                refine bodyPost_ret (v := .bool true) (by simp [results, Tryd.f36, go_sem]) rfl ?_
                rw [HQ.out.1]
                exact ⟨ret_boolI (by simp), _, _, T3.out.drew, HQ.out.2⟩
          · have t3 : decide ((dn : Int) < 128) = false := by simp; omega
            have HM : Hid (getF (b.drop z) 0 0 = getF (b.drop (z + 3)) 3 n) := HG2.out.trans (getF_more (by omega) (by omega) HN.out.1)
            go_wp2_with (go_at_call 47; refine (bel_is q2 (by omega)).mono ?_; rintro e w' ⟨rfl, hx⟩; subst w')
            (try go_region)
            go_wp2
            go_round
            case rel => exact ⟨3, n, by omega, by go_num, HN.out.2, (by show TN _ _ _ _ _ _ _ _; have := T3.out.drew; simpa using this), HM⟩
            case measure => simp [intOf]
      · have HT1 : Hid (TN w wr ga oa gn on_ ((z : Int) + 3) (acc : Int)) := by show TN _ _ _ _ _ _ _ _; have := HT0.out; simpa using this
        clear HT0
        have ca : wr.cell? ⟨ga, oa, none⟩ = some (.int .i64 ((z : Int) + 3)) := HT1.out.at_.cell
        by_cases hout : b.length ≤ z + 3
        · have q2 : inB ((z : Int) + 3) 0 ((b.length : Int) - 1) = false := by
            have : decide (((z : Int) + 3) ≤ (b.length : Int) - 1) = false := decide_eq_false (by omega)
            simp only [inB, this, Bool.and_false]
          have HQ : Hid (r = false) := by show _ = _; rw [HR.out, getB_none (by rw [HG.out, List.drop_eq_nil_of_le (by omega)]; rfl)]
          have HT : Hid (∀ q n, Took b z q n) := fun q n e => by rw [← HR.out, HQ.out] at e; cases e
          go_wp2_with (go_at_call 47; refine (bel_is q2 (by omega)).mono ?_; rintro e w' ⟨rfl, hx⟩; subst w')
          refine bodyPost_ret (v := .bool false) (by simp [results, Tryd.f36, go_sem]) rfl ?_
          rw [HQ.out]
          exact ⟨rfl, _, _, HT1.out, HT.out _ _⟩
        · have hin : z + 3 < b.length := by omega
          have q2 : inB ((z : Int) + 3) 0 ((b.length : Int) - 1) = true := by simp [inB]; omega
          obtain ⟨g, o, rfl, hS, hc, hd1, hd2⟩ := HA.out (z + 3) hin
          have hcw : wr.heap[g]? = w.heap[g]? := HT1.out.old.block g fun o ho => ho.elim (fun e => hS.2.1 e.1) fun e => hS.2.2 e.1
          have hcb : wr.cell? ⟨g, o + (z + 3), none⟩ = some (.int .u8 b[z + 3]) := (World.cell?_of_block (a := ⟨g, o + (z + 3), none⟩) hcw).trans hc
          have HD : Hid (b.drop (z + 3) = b[z + 3] :: b.drop (z + 3 + 1)) := List.drop_eq_getElem_cons hin
          generalize b[z + 3] = d at hcb hd1 hd2 HD
          clear hc hcw
          obtain ⟨dn, rfl⟩ : ∃ dn : Nat, d = dn := ⟨d.toNat, by omega⟩
          have hpk : ((z : Int) + 3) < (b.length : Int) := by omega
          have hac : acc < 128 ^ 3 := hacc.out
          obtain ⟨n, hn⟩ : ∃ n : Nat, n = acc + dn % 128 * 128 ^ 3 := ⟨_, rfl⟩
          have hnb : n < 128 ^ 4 := by omega
          have T2 : Hid (TN w (wr.setCell ⟨ga, oa, none⟩ (.int .i64 ((z : Int) + 4))) ga oa gn on_ ((z : Int) + 4) (acc : Int)) := HT1.out.setA NE.out _
          have T3 : Hid (TN w ((wr.setCell ⟨ga, oa, none⟩ (.int .i64 ((z : Int) + 4))).setCell ⟨gn, on_, none⟩ (.int .i64 (n : Int))) ga oa gn on_ ((z : Int) + 4) (n : Int)) := T2.out.setN NE.out _
          have fa : wr.frozen? ⟨ga, oa, none⟩ = false := HT1.out.at_.frz
          have hz1 : IntKind.i64.wrap (((z : Int) + 3) + 1) = ((z : Int) + 4) := by rw [IntKind.wrap_i64]; omega
          have cn : (wr.setCell ⟨ga, oa, none⟩ (.int .i64 ((z : Int) + 4))).cell? ⟨gn, on_, none⟩ = some (.int .i64 (acc : Int)) := T2.out.num.cell
          have fn : (wr.setCell ⟨ga, oa, none⟩ (.int .i64 ((z : Int) + 4))).frozen? ⟨gn, on_, none⟩ = false := T2.out.num.frz
          have hadd : (acc : Int) + (dn : Int) % 128 * 2097152 = (n : Int) := by omega
          have cn3 : ((wr.setCell ⟨ga, oa, none⟩ (.int .i64 ((z : Int) + 4))).setCell ⟨gn, on_, none⟩ (.int .i64 (n : Int))).cell? ⟨gn, on_, none⟩ = some (.int .i64 (n : Int)) := T3.out.num.cell
          have cn4 : ((wr.setCell ⟨ga, oa, none⟩ (.int .i64 ((z : Int) + 4))).setCell ⟨gn, on_, none⟩ (.int .i64 (n : Int))).drew.cell? ⟨gn, on_, none⟩ = some (.int .i64 (n : Int)) := T3.out.num.cell
          have HN : Hid (n = acc + dn % 128 * 128 ^ 3 ∧ n < 128 ^ 4) := ⟨hn, hnb⟩
          have HG2 : Hid (getF (b.drop z) 0 0 = getF ((dn : Int) :: b.drop (z + 3 + 1)) 3 acc) := by show _ = _; rw [HG.out]; exact congrArg (fun l => getF l 3 acc) HD.out
          have hn63 : n ≤ 9223372036854775807 := by omega
          clear hn hnb hac hin hout hd1
          by_cases hlo : dn < 128
          · have t3 : decide ((dn : Int) < 128) = true := by simp; omega
            have HL := HG2.out.trans (getF_last (by omega) hlo HN.out.1)
            have HQ : Hid (r = (decide ((n : Int) ≤ 2147483647) && (decide (0 < (dn : Int)) || false)) ∧ Took b z ((z : Int) + 4) (n : Int)) := by
              by_cases hbad : (0 < 3 ∧ dn = 0) ∨ 2147483647 < n
              · rw [if_pos hbad] at HL
                refine ⟨?_, fun e => by rw [getB_none HL] at e; cases e⟩
                rw [HR.out, getB_none HL]
                symm
                rcases hbad with ⟨h0, rfl⟩ | h0
                · first | (simp at h0; done) | simp
                · have : decide ((n : Int) ≤ 2147483647) = false := decide_eq_false (by omega)
                  rw [this, Bool.false_and]
              · rw [if_neg hbad] at HL
                refine ⟨?_, fun e => by rw [getB_some HL]; exact ⟨by push_cast; omega, rfl⟩⟩
                rw [HR.out, getB_some HL]
                symm
                have e1 : decide ((n : Int) ≤ 2147483647) = true := decide_eq_true (by omega)
                rw [e1, Bool.true_and]
                first | (simp; done) | (have e2 : decide (0 < (dn : Int)) = true := decide_eq_true (by omega)
                                        rw [e2, Bool.true_or])
            clear HL HG2 HN HD HG
            rcases q5 : decide ((n : Int) ≤ 2147483647) with _ | _
            · rw [q5] at HQ
              go_wp2_with (go_at_call 47; refine (bel_is q2 (by omega)).mono ?_; rintro e w' ⟨rfl, hx⟩; subst w')
              (try go_region)
              go_wp2
              refine bodyPost_ret (v := .bool false) (by simp [results, Tryd.f36, go_sem]) rfl ?_
              rw [HQ.out.1]
              exact ⟨ret_boolI (by simp), _, _, T3.out.drew, HQ.out.2⟩
            · rcases q6 : decide (0 < (dn : Int)) with _ | _
              · rw [q5, q6] at HQ
                have q7 : decide (0 < dn) = false := by simpa using q6
                go_wp2_with (go_at_call 47; refine (bel_is q2 (by omega)).mono ?_; rintro e w' ⟨rfl, hx⟩; subst w')
                (try go_region)
                go_wp2
                refine bodyPost_ret (v := .bool false) (by simp [results, Tryd.f36, go_sem]) rfl ?_
                rw [HQ.out.1]
                exact ⟨ret_boolI (by simp), _, _, T3.out.drew, HQ.out.2⟩
              · rw [q5, q6] at HQ
                have q7 : decide (0 < dn) = true := by simpa using q6
                go_wp2_with (go_at_call 47; refine (bel_is q2 (by omega)).mono ?_; rintro e w' ⟨rfl, hx⟩; subst w')
                (try go_region)
                go_wp2
                refine bodyPost_ret (v := .bool true) (by simp [results, Tryd.f36, go_sem]) rfl ?_
                rw [HQ.out.1]
                exact ⟨ret_boolI (by simp), _, _, T3.out.drew, HQ.out.2⟩
          · have t3 : decide ((dn : Int) < 128) = false := by simp; omega
            have HM : Hid (getF (b.drop z) 0 0 = getF (b.drop (z + 4)) 4 n) := HG2.out.trans (getF_more (by omega) (by omega) HN.out.1)
            go_wp2_with (go_at_call 47; refine (bel_is q2 (by omega)).mono ?_; rintro e w' ⟨rfl, hx⟩; subst w')
            (try go_region)
            go_wp2
            go_round
            case rel => exact ⟨4, n, by omega, by go_num, HN.out.2, (by show TN _ _ _ _ _ _ _ _; have := T3.out.drew; simpa using this), HM⟩
            case measure => simp [intOf]
      · have HT1 : Hid (TN w wr ga oa gn on_ ((z : Int) + 4) (acc : Int)) := by show TN _ _ _ _ _ _ _ _; have := HT0.out; simpa using this
        clear HT0
        have ca : wr.cell? ⟨ga, oa, none⟩ = some (.int .i64 ((z : Int) + 4)) := HT1.out.at_.cell
        by_cases hout : b.length ≤ z + 4
        · have q2 : inB ((z : Int) + 4) 0 ((b.length : Int) - 1) = false := by
            have : decide (((z : Int) + 4) ≤ (b.length : Int) - 1) = false := decide_eq_false (by omega)
            simp only [inB, this, Bool.and_false]
          have HQ : Hid (r = false) := by show _ = _; rw [HR.out, getB_none (by rw [HG.out, List.drop_eq_nil_of_le (by omega)]; rfl)]
          have HT : Hid (∀ q n, Took b z q n) := fun q n e => by rw [← HR.out, HQ.out] at e; cases e
          go_wp2_with (go_at_call 47; refine (bel_is q2 (by omega)).mono ?_; rintro e w' ⟨rfl, hx⟩; subst w')
          refine bodyPost_ret (v := .bool false) (by simp [results, Tryd.f36, go_sem]) rfl ?_
          rw [HQ.out]
          exact ⟨rfl, _, _, HT1.out, HT.out _ _⟩
        · have hin : z + 4 < b.length := by omega
          have q2 : inB ((z : Int) + 4) 0 ((b.length : Int) - 1) = true := by simp [inB]; omega
          obtain ⟨g, o, rfl, hS, hc, hd1, hd2⟩ := HA.out (z + 4) hin
          have hcw : wr.heap[g]? = w.heap[g]? := HT1.out.old.block g fun o ho => ho.elim (fun e => hS.2.1 e.1) fun e => hS.2.2 e.1
          have hcb : wr.cell? ⟨g, o + (z + 4), none⟩ = some (.int .u8 b[z + 4]) := (World.cell?_of_block (a := ⟨g, o + (z + 4), none⟩) hcw).trans hc
          have HD : Hid (b.drop (z + 4) = b[z + 4] :: b.drop (z + 4 + 1)) := List.drop_eq_getElem_cons hin
          generalize b[z + 4] = d at hcb hd1 hd2 HD
          clear hc hcw
          obtain ⟨dn, rfl⟩ : ∃ dn : Nat, d = dn := ⟨d.toNat, by omega⟩
          have hpk : ((z : Int) + 4) < (b.length : Int) := by omega
          have hac : acc < 128 ^ 4 := hacc.out
          obtain ⟨n, hn⟩ : ∃ n : Nat, n = acc + dn % 128 * 128 ^ 4 := ⟨_, rfl⟩
          have hnb : n < 128 ^ 5 := by omega
          have T2 : Hid (TN w (wr.setCell ⟨ga, oa, none⟩ (.int .i64 ((z : Int) + 5))) ga oa gn on_ ((z : Int) + 5) (acc : Int)) := HT1.out.setA NE.out _
          have T3 : Hid (TN w ((wr.setCell ⟨ga, oa, none⟩ (.int .i64 ((z : Int) + 5))).setCell ⟨gn, on_, none⟩ (.int .i64 (n : Int))) ga oa gn on_ ((z : Int) + 5) (n : Int)) := T2.out.setN NE.out _
          have fa : wr.frozen? ⟨ga, oa, none⟩ = false := HT1.out.at_.frz
          have hz1 : IntKind.i64.wrap (((z : Int) + 4) + 1) = ((z : Int) + 5) := by rw [IntKind.wrap_i64]; omega
          have cn : (wr.setCell ⟨ga, oa, none⟩ (.int .i64 ((z : Int) + 5))).cell? ⟨gn, on_, none⟩ = some (.int .i64 (acc : Int)) := T2.out.num.cell
          have fn : (wr.setCell ⟨ga, oa, none⟩ (.int .i64 ((z : Int) + 5))).frozen? ⟨gn, on_, none⟩ = false := T2.out.num.frz
          have hadd : (acc : Int) + (dn : Int) % 128 * 268435456 = (n : Int) := by omega
          have cn3 : ((wr.setCell ⟨ga, oa, none⟩ (.int .i64 ((z : Int) + 5))).setCell ⟨gn, on_, none⟩ (.int .i64 (n : Int))).cell? ⟨gn, on_, none⟩ = some (.int .i64 (n : Int)) := T3.out.num.cell
          have cn4 : ((wr.setCell ⟨ga, oa, none⟩ (.int .i64 ((z : Int) + 5))).setCell ⟨gn, on_, none⟩ (.int .i64 (n : Int))).drew.cell? ⟨gn, on_, none⟩ = some (.int .i64 (n : Int)) := T3.out.num.cell
          have HN : Hid (n = acc + dn % 128 * 128 ^ 4 ∧ n < 128 ^ 5) := ⟨hn, hnb⟩
          have HG2 : Hid (getF (b.drop z) 0 0 = getF ((dn : Int) :: b.drop (z + 4 + 1)) 4 acc) := by show _ = _; rw [HG.out]; exact congrArg (fun l => getF l 4 acc) HD.out
          have hn63 : n ≤ 9223372036854775807 := by omega
          clear hn hnb hac hin hout hd1
          by_cases hlo : dn < 128
          · have t3 : decide ((dn : Int) < 128) = true := by simp; omega
            have HL := HG2.out.trans (getF_last (by omega) hlo HN.out.1)
            have HQ : Hid (r = (decide ((n : Int) ≤ 2147483647) && (decide (0 < (dn : Int)) || false)) ∧ Took b z ((z : Int) + 5) (n : Int)) := by
              by_cases hbad : (0 < 4 ∧ dn = 0) ∨ 2147483647 < n
              · rw [if_pos hbad] at HL
                refine ⟨?_, fun e => by rw [getB_none HL] at e; cases e⟩
                rw [HR.out, getB_none HL]
                symm
                rcases hbad with ⟨h0, rfl⟩ | h0
                · first | (simp at h0; done) | simp
                · have : decide ((n : Int) ≤ 2147483647) = false := decide_eq_false (by omega)
                  rw [this, Bool.false_and]
              · rw [if_neg hbad] at HL
                refine ⟨?_, fun e => by rw [getB_some HL]; exact ⟨by push_cast; omega, rfl⟩⟩
                rw [HR.out, getB_some HL]
                symm
                have e1 : decide ((n : Int) ≤ 2147483647) = true := decide_eq_true (by omega)
                rw [e1, Bool.true_and]
                first | (simp; done) | (have e2 : decide (0 < (dn : Int)) = true := decide_eq_true (by omega)
                                        rw [e2, Bool.true_or])
            clear HL HG2 HN HD HG
            rcases q5 : decide ((n : Int) ≤ 2147483647) with _ | _
            · rw [q5] at HQ
              go_wp2_with (go_at_call 47; refine (bel_is q2 (by omega)).mono ?_; rintro e w' ⟨rfl, hx⟩; subst w')
              (try go_region)
              go_wp2
              refine bodyPost_ret (v := .bool false) (by simp [results, Tryd.f36, go_sem]) rfl ?_
              rw [HQ.out.1]
              exact ⟨ret_boolI (by simp), _, _, T3.out.drew, HQ.out.2⟩
            · rcases q6 : decide (0 < (dn : Int)) with _ | _
              · rw [q5, q6] at HQ
                have q7 : decide (0 < dn) = false := by simpa using q6
                go_wp2_with (go_at_call 47; refine (bel_is q2 (by omega)).mono ?_; rintro e w' ⟨rfl, hx⟩; subst w')
                (try go_region)
                go_wp2
                refine bodyPost_ret (v := .bool false) (by simp [results, Tryd.f36, go_sem]) rfl ?_
                rw [HQ.out.1]
                exact ⟨ret_boolI (by simp), _, _, T3.out.drew, HQ.out.2⟩
              · rw [q5, q6] at HQ
                have q7 : decide (0 < dn) = true := by simpa using q6
                go_wp2_with (go_at_call 47; refine (bel_is q2 (by omega)).mono ?_; rintro e w' ⟨rfl, hx⟩; subst w')
                (try go_region)
                go_wp2
                refine bodyPost_ret (v := .bool true) (by simp [results, Tryd.f36, go_sem]) rfl ?_
                rw [HQ.out.1]
                exact ⟨ret_boolI (by simp), _, _, T3.out.drew, HQ.out.2⟩
          · have t3 : decide ((dn : Int) < 128) = false := by simp; omega
            have HM : Hid (getF (b.drop z) 0 0 = getF (b.drop (z + 5)) 5 n) := HG2.out.trans (getF_more (by omega) (by omega) HN.out.1)
            go_wp2_with (go_at_call 47; refine (bel_is q2 (by omega)).mono ?_; rintro e w' ⟨rfl, hx⟩; subst w')
            (try go_region)
            go_wp2
            go_round
            case rel => exact ⟨5, n, by omega, by go_num, HN.out.2, (by show TN _ _ _ _ _ _ _ _; have := T3.out.drew; simpa using this), HM⟩
            case measure => simp [intOf]
      · have HQ : Hid (r = false) := by show _ = _; rw [HR.out, getB_none (by rw [HG.out]; exact getF_five _ _)]
        have HT : Hid (∀ q n, Took b z q n) := fun q n e => by rw [← HR.out, HQ.out] at e; cases e
        go_wp2
        refine bodyPost_ret (v := .bool false) (by simp [results, Tryd.f36, go_sem]) rfl ?_
        rw [HQ.out]
        exact ⟨rfl, _, _, HT0.out, HT.out _ _⟩

end Go.Proofs.YtlfchmmkaflglaaDoor.byts

/-
  The model's FunsOf, at all bytes; nothing that was there is turned.
-/
import Derived.Test.YtlfchmmkaflglaaDoorFunsOfHold
namespace Go.Proofs.YtlfchmmkaflglaaDoor.fun
open Go Go.RowKit Go.Proofs.YtlfchmmkaflglaaDoor.rose Go.Proofs.YtlfchmmkaflglaaDoor Go.Proofs.YtlfchmmkaflglaaDoor.byts
set_option linter.unusedVariables false
set_option linter.unusedSimpArgs false

theorem none_rep (w : World) {base : Nat} (h : base ≤ w.heap.size) : funSp.sslice.rep (w.alloc (.cells #[] 45)) (fun q => base ≤ q ∧ q < (w.alloc (.cells #[] 45)).heap.size) [.slice (some ⟨w.heap.size, 0, none⟩) 0 0] [] :=
  (grown_lit funSp 45 w h).sslice (by decide)
theorem wts_push (xs : List FunD) (k : FunD) : wts (xs ++ [k]) = wts xs + wt k := by
  induction xs with
  | nil => simp [wts]
  | cons a xs ih => simp only [List.cons_append, wts, ih]; omega

/-- Where the outer loop stands. -/
structure OS (w wr : World) (cb : Nat) (v v5 : Value) (b : List Int) (n i p : Nat) (ok : Bool) (xs : List FunD) : Prop where
  cur : CB wr cb v p ok
  row : Grown funSp 45 wr (cb + 1) v5 xs
  bel : Below w.heap.size w wr
  pl : p ≤ b.length
  all : allS b = (xs ++ (funsS b (n - i) p ok).1, (funsS b (n - i) p ok).2)
  wt_ : ok = true → xs.length + wts xs ≤ p
/-- Where the inner loop stands. -/
structure PS (wr wi : World) (cb : Nat) (v vl : Value) (b : List Int) (m k p2 q : Nat) (k2 okq : Bool) (free : Int) (os : List op.OpD) : Prop where
  is : IS wr wi cb v q okq free vl os
  ql : q ≤ b.length
  all : opsS b m p2 k2 = (os ++ (opsS b (m - k) q okq).1, (opsS b (m - k) q okq).2)
  wt_ : okq = true → k2 = true ∧ 3 * os.length + p2 ≤ q

set_option maxRecDepth 100000 in
set_option maxHeartbeats 32000000 in
theorem specFunsOf (b : List Int) (v : Value) (w : World) (hl : b.length ≤ 1048576) (h : bytesSh.rep w (· < w.heap.size) [v] b) :
    Calls Tryd.prog 14 #[v] w fun e w' => (∃ v', e = .returned (.tuple #[v', .bool (funsOfB b).2]) ∧ funSp.sslice.rep w' (fun q => w.heap.size ≤ q ∧ q < w'.heap.size) [v'] (funsOfB b).1) ∧ Below w.heap.size w w' := by
  have AB : Hid (∀ w' : World, Below w.heap.size w w' → bytesSh.rep w' (· < w'.heap.size) [v] b) := fun w' hb => bytesSh.mono (bytesSh.below h hb) fun b hlt => Nat.lt_of_lt_of_le hlt hb.size
  obtain ⟨av, cv, hv⟩ : ∃ a c, v = .slice a b.length c := by obtain ⟨a, c, e⟩ := slice_cells h; simp only [List.cons.injEq, and_true] at e; exact ⟨a, c, e⟩
  subst hv
  clear h
  obtain ⟨tf, htf, hzf⟩ := Option.map_eq_some_iff.1 infoFun
  simp only [Prod.mk.injEq] at hzf
  have TF : Hid (Tryd.prog.info? 45 = some tf ∧ tf.zero = some (.agg #[.int .i64 0, .slice none 0 0]) ∧ tf.size = 2 ∧ tf.bytes = 32) := ⟨htf, hzf.1, hzf.2.1, hzf.2.2⟩
  obtain ⟨to_, hto, hzo⟩ := Option.map_eq_some_iff.1 infoOpF
  simp only [Prod.mk.injEq] at hzo
  have TO : Hid (Tryd.prog.info? 47 = some to_ ∧ to_.zero = some (.agg #[.int .i64 0, .int .i64 0, .int .i64 0]) ∧ to_.size = 3 ∧ to_.bytes = 24) := ⟨hto, hzo.1, hzo.2.1, hzo.2.2⟩
  clear htf hzf hto hzo
  obtain ⟨r, hr⟩ : ∃ r, r = funsOfB b := ⟨_, rfl⟩
  rw [← hr]
  have HR : Hid (r = funsOfB b) := hr
  clear hr
  obtain ⟨W0, hW0⟩ : ∃ W0, W0 = (w.alloc (.cells #[.slice av b.length cv, .int .i64 0, .bool true] 54)).alloc (.cells #[] 45) := ⟨_, rfl⟩
  have HW0 : Hid (W0 = (w.alloc (.cells #[.slice av b.length cv, .int .i64 0, .bool true] 54)).alloc (.cells #[] 45)) := hW0
  have B0 : Hid (Below w.heap.size w W0) := by rw [hW0]; exact ((Below.refl _ w).alloc (Nat.le_refl _) _).alloc (by simp) _
  have C0 : Hid (CB W0 w.heap.size (.slice av b.length cv) 0 true) := by
    rw [hW0]; unfold Hid CB
    rw [Below.heap_alloc _ _ _ (by simp)]; exact alloc_top _ _
  have G0 : Hid (Grown funSp 45 W0 (w.heap.size + 1) (.slice (some ⟨w.heap.size + 1, 0, none⟩) 0 0) []) := by
    rw [hW0]
    have := grown_lit funSp 45 (w.alloc (.cells #[.slice av b.length cv, .int .i64 0, .bool true] 54)) (base := w.heap.size + 1) (by simp)
    rw [World.size_alloc] at this
    exact this
  have hcall := num_any b w.heap.size 0 true (.slice av b.length cv) W0 hl (Nat.zero_le _) C0.out (AB.out _ B0.out)
  have HN0 := numS_in b 0 true (Nat.zero_le _)
  have HALL : Hid (allS b = funsS b (numS b 0 true).1 (numS b 0 true).2.1 (numS b 0 true).2.2) := rfl
  generalize numS b 0 true = x0 at hcall HN0 HALL
  obtain ⟨n, p0, ok0⟩ := x0
  dsimp only at hcall HN0 HALL
  clear hW0
  go_enter Tryd.func14, Tryd.ntmps14
  go_wp2_with fail
  rw [← HW0.out]
  refine hcall.mono ?_
  rintro e w1 ⟨rfl, hc1, hg1⟩
  have S1 : Hid (OS w w1 w.heap.size (.slice av b.length cv) (.slice (some ⟨w.heap.size + 1, 0, none⟩) 0 0) b n 0 p0 ok0 []) := by
    refine ⟨hc1, G0.out.on hg1.size fun q h1 h2 => hg1.block q h2 fun e => by simp only [Option.some.injEq] at e; omega, B0.out.grown hg1 B0.out.size (fun k e => by simp only [Option.some.injEq] at e; omega), HN0.2.2.1, by rw [HALL.out]; simp, fun _ => by simp [wts]⟩
  have hn31 : n ≤ 2147483647 := HN0.1
  clear hcall hc1 hg1 HN0 HALL HW0 B0 C0 G0
  go_wp2
  go_loopw [5, 7] (fun v5 v7 wr => ∃ (i p : Nat) (ok : Bool) (xs : List FunD) (a5 : Option Addr) (c5 : Nat), i ≤ n ∧ v7 = .int .i64 i ∧ v5 = .slice a5 xs.length c5 ∧ Hid (OS w wr w.heap.size (.slice av b.length cv) (.slice a5 xs.length c5) b n i p ok xs)) (fun _ v7 _ => n - (intOf v7).toNat)
  case atStart => exact ⟨0, p0, ok0, [], _, _, Nat.zero_le _, rfl, rfl, S1.out⟩
  case round =>
    obtain ⟨i, p, ok, xs, a5, c5, hi, rfl, rfl, HS⟩ := hrel
    have c2 : wr.cell? ⟨w.heap.size, 2, none⟩ = some (.bool ok) := HS.out.cur.cell 2 rfl
    have c1 : wr.cell? ⟨w.heap.size, 1, none⟩ = some (.int .i64 p) := HS.out.cur.cell 1 rfl
    have hpl : p ≤ b.length := HS.out.pl
    by_cases hlt : i < n
    · cases ok with
      | false =>
        have HF : Hid (r = ([], false)) := by
          show _ = _; rw [HR.out]; unfold funsOfB; rw [HS.out.all, funsS_off]; simp
        go_wp2
        go_ret2
        rw [HF.out]
        exact ⟨⟨_, rfl, none_rep wr HS.out.bel.size⟩, HS.out.bel.alloc HS.out.bel.size _⟩
      | true =>
--BODY
        rename World => wo
        have hcbl : w.heap.size < wo.heap.size := HS.out.cur.lt
        have hwB : w.heap.size ≤ wo.heap.size := by omega
        have FB : Hid (∀ wi : World, Only (fun b => b = w.heap.size ∨ wo.heap.size ≤ b) wo wi → Below w.heap.size w wi) := fun wi ho => HS.out.bel.trans (ho.below hwB fun b hb => by rcases hb with rfl | hb <;> omega)
        have I0 : Hid (IS wo (wo.alloc (.cells #[.int .i64 0, .slice none 0 0] 45)) w.heap.size (.slice av b.length cv) p true 0 (.slice none 0 0) []) := by
          have hb : Below wo.heap.size wo (wo.alloc (.cells #[.int .i64 0, .slice none 0 0] 45)) := (Below.refl _ _).alloc (Nat.le_refl _) _
          exact ⟨(hb.block _ hcbl).trans HS.out.cur, alloc_top _ _, Grown.nil _ _ _ _, Only.ofBelow hb, hcbl⟩
        have hcallx := num_any b w.heap.size p true (.slice av b.length cv) _ hl hpl I0.out.cur (AB.out _ (FB.out _ I0.out.frm))
        have N1 := numS_in b p true hpl
        obtain ⟨x1, p1, k1, hX⟩ : ∃ xa pa ka, numS b p true = (xa, pa, ka) := ⟨_, _, _, rfl⟩
        rw [hX] at hcallx N1
        have HX : Hid (numS b p true = (x1, p1, k1)) := hX
        dsimp only at hcallx N1
        have hx31 : x1 ≤ 2147483647 := N1.1
        have hp1 : p ≤ p1 ∧ p1 ≤ b.length := ⟨N1.2.1, N1.2.2.1⟩
        have N1H : Hid (k1 = true → p < p1) := fun h => (N1.2.2.2 h).2
        clear hX N1
        go_wp2_with fail
        refine hcallx.mono ?_
        rintro e w2 ⟨rfl, hc2, hg2⟩
        have I2 : Hid (IS wo w2 w.heap.size (.slice av b.length cv) p1 k1 0 (.slice none 0 0) []) := I0.out.num hg2 hc2
        have f0 : w2.cell? ⟨wo.heap.size, 0, none⟩ = some (.int .i64 0) := by simp [World.cell?, I2.out.blk]
        have ff : w2.frozen? ⟨wo.heap.size, 0, none⟩ = false := by simp [World.frozen?, I2.out.blk]
        have I3 : Hid (IS wo (w2.setCell ⟨wo.heap.size, 0, none⟩ (.int .i64 (x1 : Nat))) w.heap.size (.slice av b.length cv) p1 k1 (x1 : Nat) (.slice none 0 0) []) := I2.out.setFree _
        have hcally := num_any b w.heap.size p1 k1 (.slice av b.length cv) _ hl hp1.2 I3.out.cur (AB.out _ (FB.out _ I3.out.frm))
        have N2 := numS_in b p1 k1 hp1.2
        obtain ⟨y1, p2, k2, hY⟩ : ∃ xa pa ka, numS b p1 k1 = (xa, pa, ka) := ⟨_, _, _, rfl⟩
        rw [hY] at hcally N2
        have HY : Hid (numS b p1 k1 = (y1, p2, k2)) := hY
        dsimp only at hcally N2
        have hy31 : y1 ≤ 2147483647 := N2.1
        have hp2 : p1 ≤ p2 ∧ p2 ≤ b.length := ⟨N2.2.1, N2.2.2.1⟩
        have N2H : Hid (k2 = true → k1 = true ∧ p1 < p2) := N2.2.2.2
        clear hY N2 hcallx hc2 hg2 I0 c1 c2
        go_wp2_with fail
        refine hcally.mono ?_
        rintro e w4 ⟨rfl, hc4, hg4⟩
        have I4 : Hid (IS wo w4 w.heap.size (.slice av b.length cv) p2 k2 (x1 : Nat) (.slice none 0 0) []) := I3.out.num hg4 hc4
        clear hcally hc4 hg4 I2 I3 f0 ff
        go_wp2
        go_loopw [10] (fun v10 wi => ∃ (k q : Nat) (okq : Bool) (os : List op.OpD) (al : Option Addr) (cl : Nat), k ≤ y1 ∧ v10 = .int .i64 k ∧ q ≤ b.length ∧ Hid (PS wo wi w.heap.size (.slice av b.length cv) (.slice al os.length cl) b y1 k p2 q k2 okq (x1 : Nat) os)) (fun v10 _ => y1 - (intOf v10).toNat)
        case atStart => exact ⟨0, p2, k2, [], none, 0, Nat.zero_le _, rfl, hp2.2, ⟨I4.out, hp2.2, by simp, fun h => ⟨h, by simp⟩⟩⟩
        case round =>
          obtain ⟨k, q, okq, os, al, cl, hk, rfl, hql, HP⟩ := hrel
          have d2 : wr.cell? ⟨w.heap.size, 2, none⟩ = some (.bool okq) := HP.out.is.cur.cell 2 rfl
          have f0 : wr.cell? ⟨wo.heap.size, 0, none⟩ = some (.int .i64 (x1 : Nat)) := by simp [World.cell?, HP.out.is.blk]
          have f1 : wr.cell? ⟨wo.heap.size, 1, none⟩ = some (.slice al os.length cl) := by simp [World.cell?, HP.out.is.blk]
          by_cases hltk : k < y1
          · cases okq with
            | false =>
              have hops : opsS b y1 p2 k2 = (os, q, false) := by rw [HP.out.all, opsS_off]; simp
              have HOQS : Hid (opsS b y1 p2 k2 = (os, q, false)) := hops
              clear hops
              have hfs : funsS b (n - i) p true = (((x1 : Int), os) :: (funsS b (n - (i + 1)) q false).1, (funsS b (n - (i + 1)) q false).2) := by
                rw [show n - i = (n - (i + 1)) + 1 by omega]
                simp only [funsS, if_true, HX.out, HY.out, HOQS.out]
              have HFS : Hid _ := hfs
              clear hfs
              obtain ⟨cssG, FG, grow, grep, gin, gap⟩ := HS.out.row
              have GA : Hid ((∀ j (h : j < xs.length), funSp.rep wo (FG j) (cssG j) xs[j]) ∧ (∀ j, j < xs.length → ∀ q, FG j q → w.heap.size + 1 ≤ q ∧ q < wo.heap.size ∧ (Value.slice a5 xs.length c5).ownBlock ≠ some q) ∧ ∀ j l, j < xs.length → l < xs.length → j ≠ l → ∀ q, FG j q → ¬ FG l q) := ⟨grep, gin, gap⟩
              have GV : Hid (∀ g, (Value.slice a5 xs.length c5).ownBlock = some g → w.heap.size + 1 ≤ g ∧ g < wo.heap.size) := fun g hg => grow.lt g hg
              have SAME : Hid (∀ X : Obj, ∀ q, w.heap.size + 1 ≤ q → q < wo.heap.size → (wr.alloc X).heap[q]? = wo.heap[q]?) := fun X q h1 h2 => (Below.heap_alloc _ _ _ (Nat.lt_of_lt_of_le h2 HP.out.is.frm.size)).trans (HP.out.is.frm.block q h2 fun e => by rcases e with e | e <;> omega)
              have RD : Hid ((wr.alloc (.cells #[.int .i64 (x1 : Nat), .slice al os.length cl] 45)).ownsRow (w.heap.size + 1) 45 2 (.slice a5 xs.length c5) xs.length (flat cssG xs.length)) := own_same grow fun q hq => SAME.out _ q (GV.out q hq).1 (GV.out q hq).2
              have hxl : xs.length ≤ 1048576 := by have := HS.out.wt_ rfl; omega
              have ZW : Hid (wo.heap.size < wr.heap.size) := HP.out.is.lt
              clear grow grep gin gap
              go_wp2_with (first
                | (at_builtin; refine wpList_append_own_at _ rfl (.tmp 63) (.tmp 65) 26 rfl (w.heap.size + 1) 45 tf _ 2 32 Tryd.underlying26 TF.out.1 TF.out.2.1 TF.out.2.2.1 TF.out.2.2.2 rfl (by decide) (.slice a5 xs.length c5) xs.length _ rfl RD.out ⟨wr.heap.size, 0, none⟩ 1 1 [.int .i64 (x1 : Nat), .slice al os.length cl] rfl rfl (cells_new _ _ _ _ rfl) (by simp; exact ⟨rfl, rfl⟩) (by unfold maxLen; omega) (by omega) (by have := ZW.out; simp; omega) ?_; intro v6 w6 o6 g6 n6 e6; obtain ⟨a6, c6, rfl⟩ := own_form o6))
              have hZA : (wr.alloc (.cells #[.int .i64 (x1 : Nat), .slice al os.length cl] 45)).heap.size = wr.heap.size + 1 := by simp
              have hA : Below wr.heap.size wr (wr.alloc (.cells #[.int .i64 (x1 : Nat), .slice al os.length cl] 45)) := (Below.refl _ _).alloc (Nat.le_refl _) _
              have NX : Hid (OS w w6 w.heap.size (.slice av b.length cv) (.slice a6 (xs ++ [((x1 : Int), os)]).length c6) b n (i + 1) q false (xs ++ [((x1 : Int), os)])) := by
                have hz := ZW.out
                have hcb2 := HP.out.is.cur.lt
                refine ⟨?_, ?_, ?_, HP.out.ql, ?_, fun e => ?_⟩
                · exact (g6.block _ (by omega) fun e => by have := (GV.out _ e.symm).1; omega).trans ((hA.block _ hcb2).trans HP.out.is.cur)
                · have hsl := HP.out.is.row.sslice (by decide)
                  have hx : funSp.rep (wr.alloc (.cells #[.int .i64 (x1 : Nat), .slice al os.length cl] 45)) (fun q => wo.heap.size ≤ q ∧ q < wr.heap.size) [.int .i64 (x1 : Nat), .slice al os.length cl] ((x1 : Int), os) :=
                    funSp.on (funp_shut (by omega) (op.opSp.sslice.mono hsl fun q hq => ⟨by omega, hq.2⟩)) fun q hq => hA.block q hq.2
                  rw [List.length_append, List.length_singleton]
                  exact Grown.push (w := wo) (w1 := wr.alloc (.cells #[.int .i64 (x1 : Nat), .slice al os.length cl] 45)) (css := cssG) (F := FG) (v := .slice a5 xs.length c5) (lo := wo.heap.size) (hi := wr.heap.size) (fun j hj => funSp.on (GA.out.1 j hj) fun q hq => SAME.out _ q (GA.out.2.1 j hj q hq).1 (GA.out.2.1 j hj q hq).2.1) GA.out.2.1 GA.out.2.2 (fun g hg => (GV.out g hg).2) hx (by omega) (by omega) (by omega) o6 g6 e6
                · exact ((FB.out _ HP.out.is.frm).trans (hA.mono (by omega))).grown g6 (by omega) fun g hg => by have := (GV.out g hg).1; omega
                · rw [HS.out.all, HFS.out]; simp
                · have h1 := HS.out.wt_ rfl
                  obtain ⟨h2, h3⟩ := HP.out.wt_ e
                  obtain ⟨h4, h5⟩ := N2H.out h2
                  have h6 := N1H.out h4
                  rw [List.length_append, List.length_singleton, wts_push]
                  simp only [wt]
                  omega
              clear o6 g6 n6 e6 hA hZA
              go_round
              case rel => exact ⟨i + 1, q, false, xs ++ [((x1 : Int), os)], a6, c6, by omega, by go_num, by simp, NX.out⟩
              case measure => simp [intOf]; omega
            | true =>
              have hov : (Value.slice al os.length cl).ownBlock ≠ some wr.heap.size := fun e => by have := (HP.out.is.row.own e).2; omega
              have J0 : Hid (IS wo (wr.alloc (.cells #[.int .i64 0, .int .i64 0, .int .i64 0] 47)) w.heap.size (.slice av b.length cv) q true (x1 : Nat) (.slice al os.length cl) os) := HP.out.is.new _
              have K0 : Hid (PK (wr.alloc (.cells #[.int .i64 0, .int .i64 0, .int .i64 0] 47)) wo.heap.size wr.heap.size 0 0 0 (.slice al os.length cl)) := ⟨alloc_top _ _, hov, HP.out.is.lt⟩
              have HOV : Hid ((Value.slice al os.length cl).ownBlock ≠ some wr.heap.size ∧ wo.heap.size < wr.heap.size) := ⟨hov, HP.out.is.lt⟩
              clear hov
              have hc1 := num_any b w.heap.size q true (.slice av b.length cv) _ hl hql J0.out.cur (AB.out _ (FB.out _ J0.out.frm))
              have M1 := numS_in b q true hql
              obtain ⟨z1, q1, j1, hM1⟩ : ∃ xa pa ka, numS b q true = (xa, pa, ka) := ⟨_, _, _, rfl⟩
              rw [hM1] at hc1 M1
              have HM1 : Hid (numS b q true = (z1, q1, j1)) := hM1
              dsimp only at hc1 M1
              have hz1 : z1 ≤ 2147483647 := M1.1
              have hb1 : q ≤ q1 ∧ q1 ≤ b.length := ⟨M1.2.1, M1.2.2.1⟩
              have MH1 : Hid (j1 = true → true = true ∧ q < q1) := M1.2.2.2
              clear hM1 M1
              go_wp2_with fail
              refine hc1.mono ?_
              rintro e u1w ⟨rfl, hcu, hgu⟩
              have J1a : Hid (IS wo u1w w.heap.size (.slice av b.length cv) q1 j1 (x1 : Nat) (.slice al os.length cl) os) := J0.out.num hgu hcu
              have K1a : Hid (PK u1w wo.heap.size wr.heap.size 0 0 0 (.slice al os.length cl)) := K0.out.num hgu hcbl
              have s0 : u1w.cell? ⟨wr.heap.size, 0, none⟩ = some (.int .i64 0) := K1a.out.cell 0 rfl
              have sf : u1w.frozen? ⟨wr.heap.size, 0, none⟩ = false := K1a.out.free 0
              have J1b : Hid (IS wo (u1w.setCell ⟨wr.heap.size, 0, none⟩ (.int .i64 (z1 : Nat))) w.heap.size (.slice av b.length cv) q1 j1 (x1 : Nat) (.slice al os.length cl) os) := J1a.out.setOther _ HOV.out.2 HOV.out.1
              have K1b : Hid (PK (u1w.setCell ⟨wr.heap.size, 0, none⟩ (.int .i64 (z1 : Nat))) wo.heap.size wr.heap.size (z1 : Nat) 0 0 (.slice al os.length cl)) := K1a.out.set0 _
              clear hc1 hcu hgu d2 f0 f1
              have hc2 := num_any b w.heap.size q1 j1 (.slice av b.length cv) _ hl hb1.2 J1b.out.cur (AB.out _ (FB.out _ J1b.out.frm))
              have M2 := numS_in b q1 j1 hb1.2
              obtain ⟨z2, q2, j2, hM2⟩ : ∃ xa pa ka, numS b q1 j1 = (xa, pa, ka) := ⟨_, _, _, rfl⟩
              rw [hM2] at hc2 M2
              have HM2 : Hid (numS b q1 j1 = (z2, q2, j2)) := hM2
              dsimp only at hc2 M2
              have hz2 : z2 ≤ 2147483647 := M2.1
              have hb2 : q1 ≤ q2 ∧ q2 ≤ b.length := ⟨M2.2.1, M2.2.2.1⟩
              have MH2 : Hid (j2 = true → j1 = true ∧ q1 < q2) := M2.2.2.2
              clear hM2 M2
              go_wp2_with fail
              refine hc2.mono ?_
              rintro e u2w ⟨rfl, hcu, hgu⟩
              have J2a : Hid (IS wo u2w w.heap.size (.slice av b.length cv) q2 j2 (x1 : Nat) (.slice al os.length cl) os) := J1b.out.num hgu hcu
              have K2a : Hid (PK u2w wo.heap.size wr.heap.size (z1 : Nat) 0 0 (.slice al os.length cl)) := K1b.out.num hgu hcbl
              have s0 : u2w.cell? ⟨wr.heap.size, 1, none⟩ = some (.int .i64 0) := K2a.out.cell 1 rfl
              have sf : u2w.frozen? ⟨wr.heap.size, 1, none⟩ = false := K2a.out.free 1
              have J2b : Hid (IS wo (u2w.setCell ⟨wr.heap.size, 1, none⟩ (.int .i64 ((z2 : Nat) - 1073741824))) w.heap.size (.slice av b.length cv) q2 j2 (x1 : Nat) (.slice al os.length cl) os) := J2a.out.setOther _ HOV.out.2 HOV.out.1
              have K2b : Hid (PK (u2w.setCell ⟨wr.heap.size, 1, none⟩ (.int .i64 ((z2 : Nat) - 1073741824))) wo.heap.size wr.heap.size (z1 : Nat) ((z2 : Nat) - 1073741824) 0 (.slice al os.length cl)) := K2a.out.set1 _
              clear hc2 hcu hgu
              have hc3 := num_any b w.heap.size q2 j2 (.slice av b.length cv) _ hl hb2.2 J2b.out.cur (AB.out _ (FB.out _ J2b.out.frm))
              have M3 := numS_in b q2 j2 hb2.2
              obtain ⟨z3, q3, j3, hM3⟩ : ∃ xa pa ka, numS b q2 j2 = (xa, pa, ka) := ⟨_, _, _, rfl⟩
              rw [hM3] at hc3 M3
              have HM3 : Hid (numS b q2 j2 = (z3, q3, j3)) := hM3
              dsimp only at hc3 M3
              have hz3 : z3 ≤ 2147483647 := M3.1
              have hb3 : q2 ≤ q3 ∧ q3 ≤ b.length := ⟨M3.2.1, M3.2.2.1⟩
              have MH3 : Hid (j3 = true → j2 = true ∧ q2 < q3) := M3.2.2.2
              clear hM3 M3
              go_wp2_with fail
              refine hc3.mono ?_
              rintro e u3w ⟨rfl, hcu, hgu⟩
              have J3a : Hid (IS wo u3w w.heap.size (.slice av b.length cv) q3 j3 (x1 : Nat) (.slice al os.length cl) os) := J2b.out.num hgu hcu
              have K3a : Hid (PK u3w wo.heap.size wr.heap.size (z1 : Nat) ((z2 : Nat) - 1073741824) 0 (.slice al os.length cl)) := K2b.out.num hgu hcbl
              have s0 : u3w.cell? ⟨wr.heap.size, 2, none⟩ = some (.int .i64 0) := K3a.out.cell 2 rfl
              have sf : u3w.frozen? ⟨wr.heap.size, 2, none⟩ = false := K3a.out.free 2
              have J3b : Hid (IS wo (u3w.setCell ⟨wr.heap.size, 2, none⟩ (.int .i64 (z3 : Nat))) w.heap.size (.slice av b.length cv) q3 j3 (x1 : Nat) (.slice al os.length cl) os) := J3a.out.setOther _ HOV.out.2 HOV.out.1
              have K3b : Hid (PK (u3w.setCell ⟨wr.heap.size, 2, none⟩ (.int .i64 (z3 : Nat))) wo.heap.size wr.heap.size (z1 : Nat) ((z2 : Nat) - 1073741824) (z3 : Nat) (.slice al os.length cl)) := K3a.out.set2 _
              clear hc3 hcu hgu
              have t0 : (u3w.setCell ⟨wr.heap.size, 2, none⟩ (.int .i64 (z3 : Nat))).cell? ⟨wr.heap.size, 0, none⟩ = some (.int .i64 (z1 : Nat)) := K3b.out.cell 0 rfl
              have t1 : (u3w.setCell ⟨wr.heap.size, 2, none⟩ (.int .i64 (z3 : Nat))).cell? ⟨wr.heap.size, 1, none⟩ = some (.int .i64 ((z2 : Nat) - 1073741824)) := K3b.out.cell 1 rfl
              have t2 : (u3w.setCell ⟨wr.heap.size, 2, none⟩ (.int .i64 (z3 : Nat))).cell? ⟨wr.heap.size, 2, none⟩ = some (.int .i64 (z3 : Nat)) := K3b.out.cell 2 rfl
              have t3 : (u3w.setCell ⟨wr.heap.size, 2, none⟩ (.int .i64 (z3 : Nat))).cell? ⟨wo.heap.size, 1, none⟩ = some (.slice al os.length cl) := by have := J3b.out.blk; simp [World.cell?, this]
              have ZS : Hid ((u3w.setCell ⟨wr.heap.size, 2, none⟩ (.int .i64 (z3 : Nat))).heap.size = u3w.heap.size) := by show _ = _; simp [World.setCell]
              have hA : Below (u3w.setCell ⟨wr.heap.size, 2, none⟩ (.int .i64 (z3 : Nat))).heap.size (u3w.setCell ⟨wr.heap.size, 2, none⟩ (.int .i64 (z3 : Nat))) ((u3w.setCell ⟨wr.heap.size, 2, none⟩ (.int .i64 (z3 : Nat))).alloc (.cells #[.int .i64 (z1 : Nat), .int .i64 ((z2 : Nat) - 1073741824), .int .i64 (z3 : Nat)] 47)) := (Below.refl _ _).alloc (Nat.le_refl _) _
              have J4 : Hid (IS wo ((u3w.setCell ⟨wr.heap.size, 2, none⟩ (.int .i64 (z3 : Nat))).alloc (.cells #[.int .i64 (z1 : Nat), .int .i64 ((z2 : Nat) - 1073741824), .int .i64 (z3 : Nat)] 47)) w.heap.size (.slice av b.length cv) q3 j3 (x1 : Nat) (.slice al os.length cl) os) := J3b.out.new _
              obtain ⟨cssP, FP, prow, prep, pin, pap⟩ := J4.out.row
              have PA : Hid _ := And.intro prow (And.intro prep (And.intro pin pap))
              have PR : Hid (((u3w.setCell ⟨wr.heap.size, 2, none⟩ (.int .i64 (z3 : Nat))).alloc (.cells #[.int .i64 (z1 : Nat), .int .i64 ((z2 : Nat) - 1073741824), .int .i64 (z3 : Nat)] 47)).ownsRow (wo.heap.size + 1) 47 3 (.slice al os.length cl) os.length (flat cssP os.length)) := prow
              have NC : Hid (∀ j x, [Value.int .i64 (z1 : Nat), .int .i64 ((z2 : Nat) - 1073741824), .int .i64 (z3 : Nat)][j]? = some x → ((u3w.setCell ⟨wr.heap.size, 2, none⟩ (.int .i64 (z3 : Nat))).alloc (.cells #[.int .i64 (z1 : Nat), .int .i64 ((z2 : Nat) - 1073741824), .int .i64 (z3 : Nat)] 47)).cell? ((⟨u3w.heap.size, 0, none⟩ : Addr).add j) = some x) := by
                have := cells_new (u3w.setCell ⟨wr.heap.size, 2, none⟩ (.int .i64 (z3 : Nat))) [.int .i64 (z1 : Nat), .int .i64 ((z2 : Nat) - 1073741824), .int .i64 (z3 : Nat)] 47 _ rfl
                rw [ZS.out] at this
                exact this
              have hol : os.length ≤ 1048576 := by have := HP.out.wt_ rfl; omega
              have ZW : Hid (wo.heap.size + 1 ≤ u3w.heap.size) := by have := J3a.out.lt; show _ ≤ _; omega
              clear prow prep pin pap hA
              go_wp2_with (first
                | (at_builtin; go_loud (refine wpList_append_own_at _ rfl (.tmp 58) (.tmp 60) 43 rfl (wo.heap.size + 1) 47 to_ _ 3 24 Tryd.underlying43 TO.out.1 TO.out.2.1 TO.out.2.2.1 TO.out.2.2.2 rfl (by decide) (.slice al os.length cl) os.length _ rfl PR.out ⟨u3w.heap.size, 0, none⟩ 1 1 [.int .i64 (z1 : Nat), .int .i64 ((z2 : Nat) - 1073741824), .int .i64 (z3 : Nat)] rfl rfl NC.out (by simp; exact ⟨rfl, rfl, rfl⟩) (by unfold maxLen; omega) (by omega) (by have := ZW.out; have := ZS.out; simp; omega) ?_); intro v6 w6 o6 g6 n6 e6; obtain ⟨a6, c6, rfl⟩ := own_form o6
                   have hNXI := J4.out.push (c := (z1 : Nat)) (n := (z2 : Nat) - 1073741824) (m := (z3 : Nat)) PA.out ⟨by omega, by omega, by omega⟩ o6 g6 e6
                   have NXI : Hid _ := hNXI
                   have hb6 : w6.heap[wo.heap.size]? = some (.cells #[.int .i64 (x1 : Nat), .slice al os.length cl] 45) := (g6.block _ J4.out.lt fun e => by have := (PR.out.lt _ e.symm).1; omega).trans J4.out.blk
                   have y0 : w6.cell? ⟨wo.heap.size, 1, none⟩ = some (.slice al os.length cl) := by simp [World.cell?, hb6]
                   have y1f : w6.frozen? ⟨wo.heap.size, 1, none⟩ = false := by simp [World.frozen?, hb6]
                   clear hNXI hb6 o6 g6 n6 e6))
              have NX : Hid (PS wo (w6.setCell ⟨wo.heap.size, 1, none⟩ (.slice a6 (os.length + 1) c6)) w.heap.size (.slice av b.length cv) (.slice a6 (os ++ [((z1 : Int), (z2 : Int) - 1073741824, (z3 : Int))]).length c6) b y1 (k + 1) p2 q3 k2 j3 (x1 : Nat) (os ++ [((z1 : Int), (z2 : Int) - 1073741824, (z3 : Int))])) := by
                refine ⟨?_, hb3.2, ?_, fun e => ?_⟩
                · rw [List.length_append, List.length_singleton]; exact NXI.out
                · rw [HP.out.all, show y1 - k = (y1 - (k + 1)) + 1 by omega]
                  simp only [opsS, if_true, HM1.out, HM2.out, HM3.out]
                  simp
                · obtain ⟨h1, h2⟩ := MH3.out e
                  obtain ⟨h3, h4⟩ := MH2.out h1
                  obtain ⟨h5, h6⟩ := MH1.out h3
                  obtain ⟨h7, h8⟩ := HP.out.wt_ rfl
                  refine ⟨h7, ?_⟩
                  rw [List.length_append, List.length_singleton]
                  omega
              go_round
              case rel => exact ⟨k + 1, q3, j3, os ++ [((z1 : Int), (z2 : Int) - 1073741824, (z3 : Int))], a6, c6, by omega, by go_num, hb3.2, NX⟩
              case measure => simp [intOf]; omega
          · obtain rfl : k = y1 := by omega
            have hops : opsS b k p2 k2 = (os, q, okq) := by rw [HP.out.all, Nat.sub_self]; simp [opsS]
            have HOQS : Hid (opsS b k p2 k2 = (os, q, okq)) := hops
            clear hops
            have hfs : funsS b (n - i) p true = (((x1 : Int), os) :: (funsS b (n - (i + 1)) q okq).1, (funsS b (n - (i + 1)) q okq).2) := by
              rw [show n - i = (n - (i + 1)) + 1 by omega]
              simp only [funsS, if_true, HX.out, HY.out, HOQS.out]
            have HFS : Hid _ := hfs
            clear hfs
            obtain ⟨cssG, FG, grow, grep, gin, gap⟩ := HS.out.row
            have GA : Hid ((∀ j (h : j < xs.length), funSp.rep wo (FG j) (cssG j) xs[j]) ∧ (∀ j, j < xs.length → ∀ q, FG j q → w.heap.size + 1 ≤ q ∧ q < wo.heap.size ∧ (Value.slice a5 xs.length c5).ownBlock ≠ some q) ∧ ∀ j l, j < xs.length → l < xs.length → j ≠ l → ∀ q, FG j q → ¬ FG l q) := ⟨grep, gin, gap⟩
            have GV : Hid (∀ g, (Value.slice a5 xs.length c5).ownBlock = some g → w.heap.size + 1 ≤ g ∧ g < wo.heap.size) := fun g hg => grow.lt g hg
            have SAME : Hid (∀ X : Obj, ∀ q, w.heap.size + 1 ≤ q → q < wo.heap.size → (wr.alloc X).heap[q]? = wo.heap[q]?) := fun X q h1 h2 => (Below.heap_alloc _ _ _ (Nat.lt_of_lt_of_le h2 HP.out.is.frm.size)).trans (HP.out.is.frm.block q h2 fun e => by rcases e with e | e <;> omega)
            have RD : Hid ((wr.alloc (.cells #[.int .i64 (x1 : Nat), .slice al os.length cl] 45)).ownsRow (w.heap.size + 1) 45 2 (.slice a5 xs.length c5) xs.length (flat cssG xs.length)) := own_same grow fun q hq => SAME.out _ q (GV.out q hq).1 (GV.out q hq).2
            have hxl : xs.length ≤ 1048576 := by have := HS.out.wt_ rfl; omega
            have ZW : Hid (wo.heap.size < wr.heap.size) := HP.out.is.lt
            clear grow grep gin gap
            go_wp2_with (first
              | (at_builtin; refine wpList_append_own_at _ rfl (.tmp 63) (.tmp 65) 26 rfl (w.heap.size + 1) 45 tf _ 2 32 Tryd.underlying26 TF.out.1 TF.out.2.1 TF.out.2.2.1 TF.out.2.2.2 rfl (by decide) (.slice a5 xs.length c5) xs.length _ rfl RD.out ⟨wr.heap.size, 0, none⟩ 1 1 [.int .i64 (x1 : Nat), .slice al os.length cl] rfl rfl (cells_new _ _ _ _ rfl) (by simp; exact ⟨rfl, rfl⟩) (by unfold maxLen; omega) (by omega) (by have := ZW.out; simp; omega) ?_; intro v6 w6 o6 g6 n6 e6; obtain ⟨a6, c6, rfl⟩ := own_form o6))
            have hZA : (wr.alloc (.cells #[.int .i64 (x1 : Nat), .slice al os.length cl] 45)).heap.size = wr.heap.size + 1 := by simp
            have hA : Below wr.heap.size wr (wr.alloc (.cells #[.int .i64 (x1 : Nat), .slice al os.length cl] 45)) := (Below.refl _ _).alloc (Nat.le_refl _) _
            have NX : Hid (OS w w6 w.heap.size (.slice av b.length cv) (.slice a6 (xs ++ [((x1 : Int), os)]).length c6) b n (i + 1) q okq (xs ++ [((x1 : Int), os)])) := by
              have hz := ZW.out
              have hcb2 := HP.out.is.cur.lt
              refine ⟨?_, ?_, ?_, HP.out.ql, ?_, fun e => ?_⟩
              · exact (g6.block _ (by omega) fun e => by have := (GV.out _ e.symm).1; omega).trans ((hA.block _ hcb2).trans HP.out.is.cur)
              · have hsl := HP.out.is.row.sslice (by decide)
                have hx : funSp.rep (wr.alloc (.cells #[.int .i64 (x1 : Nat), .slice al os.length cl] 45)) (fun q => wo.heap.size ≤ q ∧ q < wr.heap.size) [.int .i64 (x1 : Nat), .slice al os.length cl] ((x1 : Int), os) :=
                  funSp.on (funp_shut (by omega) (op.opSp.sslice.mono hsl fun q hq => ⟨by omega, hq.2⟩)) fun q hq => hA.block q hq.2
                rw [List.length_append, List.length_singleton]
                exact Grown.push (w := wo) (w1 := wr.alloc (.cells #[.int .i64 (x1 : Nat), .slice al os.length cl] 45)) (css := cssG) (F := FG) (v := .slice a5 xs.length c5) (lo := wo.heap.size) (hi := wr.heap.size) (fun j hj => funSp.on (GA.out.1 j hj) fun q hq => SAME.out _ q (GA.out.2.1 j hj q hq).1 (GA.out.2.1 j hj q hq).2.1) GA.out.2.1 GA.out.2.2 (fun g hg => (GV.out g hg).2) hx (by omega) (by omega) (by omega) o6 g6 e6
              · exact ((FB.out _ HP.out.is.frm).trans (hA.mono (by omega))).grown g6 (by omega) fun g hg => by have := (GV.out g hg).1; omega
              · rw [HS.out.all, HFS.out]; simp
              · have h1 := HS.out.wt_ rfl
                obtain ⟨h2, h3⟩ := HP.out.wt_ e
                obtain ⟨h4, h5⟩ := N2H.out h2
                have h6 := N1H.out h4
                rw [List.length_append, List.length_singleton, wts_push]
                simp only [wt]
                omega
            clear o6 g6 n6 e6 hA hZA
            go_round
            case rel => exact ⟨i + 1, q, okq, xs ++ [((x1 : Int), os)], a6, c6, by omega, by go_num, by simp, NX.out⟩
            case measure => simp [intOf]; omega
--END
    · obtain rfl : i = n := by omega
      have hAll : allS b = (xs, p, ok) := by rw [HS.out.all, Nat.sub_self]; simp [funsS]
      cases ok with
      | false =>
        have HF : Hid (r = ([], false)) := by show _ = _; rw [HR.out]; unfold funsOfB; rw [hAll]; simp
        clear hAll
        go_wp2
        go_ret2
        rw [HF.out]
        exact ⟨⟨_, rfl, none_rep wr HS.out.bel.size⟩, HS.out.bel.alloc HS.out.bel.size _⟩
      | true =>
        by_cases hpb : p = b.length
        · have hpe : ((p : Int) != (b.length : Int)) = false := by simp; omega
          have HRE : Hid (r = if funsB xs then (xs, true) else ([], false)) := by show _ = _; rw [HR.out]; unfold funsOfB; rw [hAll]; simp [hpb]
          have hsl := HS.out.row.sslice (by decide)
          have hcall := specFunsOk xs (.slice a5 xs.length c5) wr (by have := HS.out.wt_ rfl; omega) (funSh.slice.mono (funps_rep hsl) fun q hq => hq.2)
          have HSL : Hid (funSp.sslice.rep wr (fun q => w.heap.size + 1 ≤ q ∧ q < wr.heap.size) [.slice a5 xs.length c5] xs) := hsl
          rcases q4 : funsB xs with _ | _
          · have HF : Hid (r = ([], false)) := by show _ = _; rw [HRE.out, q4]; rfl
            rw [q4] at hcall
            clear q4 hAll hsl HRE
            go_wp2_with fail
            refine hcall.mono ?_
            rintro e w4 ⟨rfl, hb4⟩
            have B4 : Hid (Below w.heap.size w w4) := HS.out.bel.trans (hb4.mono HS.out.bel.size)
            clear hcall hb4
            go_wp2
            go_ret2
            rw [HF.out]
            exact ⟨⟨_, rfl, none_rep w4 B4.out.size⟩, B4.out.alloc B4.out.size _⟩
          · have HF : Hid (r = (xs, true)) := by show _ = _; rw [HRE.out, q4]; rfl
            rw [q4] at hcall
            clear q4 hAll hsl HRE
            go_wp2_with fail
            refine hcall.mono ?_
            rintro e w4 ⟨rfl, hb4⟩
            have B4 : Hid (Below w.heap.size w w4) := HS.out.bel.trans (hb4.mono HS.out.bel.size)
            have R4 : Hid (funSp.sslice.rep w4 (fun q => w.heap.size ≤ q ∧ q < w4.heap.size) [.slice a5 xs.length c5] xs) := funSp.sslice.mono (funSp.sslice.on HSL.out fun q hq => hb4.block q hq.2) fun q hq => ⟨by omega, Nat.lt_of_lt_of_le hq.2 hb4.size⟩
            clear hcall hb4
            go_wp2
            go_ret2
            rw [HF.out]
            exact ⟨⟨_, rfl, R4.out⟩, B4.out⟩
        · have hpe : ((p : Int) != (b.length : Int)) = true := by simp; omega
          have HF : Hid (r = ([], false)) := by show _ = _; rw [HR.out]; unfold funsOfB; rw [hAll]; simp [hpb]
          clear hAll
          go_wp2
          go_ret2
          rw [HF.out]
          exact ⟨⟨_, rfl, none_rep wr HS.out.bel.size⟩, HS.out.bel.alloc HS.out.bel.size _⟩

end Go.Proofs.YtlfchmmkaflglaaDoor.fun

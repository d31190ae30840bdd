/-
  The program's read of words, walked: each way.
-/
import Derived.Test.YtjofmoebijdccaaGreatB1
import Derived.Test.YtjofmoebijdccaaGreatB2
import Derived.Test.YtjofmoebijdccaaGreatB3
import Derived.Test.YtjofmoebijdccaaGreatB4
import Derived.Test.YtjofmoebijdccaaGreatB5
import Derived.Test.YtjofmoebijdccaaGreatB6
import Derived.Test.YtjofmoebijdccaaGreatB7
import Derived.Test.YtjofmoebijdccaaGreatB8
import Derived.Test.YtjofmoebijdccaaGreatB9
import Derived.Test.YtjofmoebijdccaaGreatB10
import Derived.Test.YtjofmoebijdccaaGreatB11
import Derived.Test.YtjofmoebijdccaaGreatB12
import Derived.Test.YtjofmoebijdccaaGreatB13
import Derived.Test.YtjofmoebijdccaaGreatB14
import Derived.Test.YtjofmoebijdccaaGreatB15
import Derived.Test.YtjofmoebijdccaaGreatB16
import Derived.Test.YtjofmoebijdccaaGreatB17
import Derived.Test.YtjofmoebijdccaaGreatB18
import Derived.Test.YtjofmoebijdccaaGreatB19
import Derived.Test.YtjofmoebijdccaaGreatB20
import Derived.Test.YtjofmoebijdccaaGreatB21
import Derived.Test.YtjofmoebijdccaaGreatB22
import Derived.Test.YtjofmoebijdccaaGreatB23
import Derived.Test.YtjofmoebijdccaaGreatB24
import Derived.Test.YtjofmoebijdccaaGreatB25
import Derived.Test.YtjofmoebijdccaaGreatB26
import Derived.Test.YtjofmoebijdccaaGreatB27
import Derived.Test.YtjofmoebijdccaaGreatB28
import Derived.Test.YtjofmoebijdccaaGreatB29
import Derived.Test.YtjofmoebijdccaaGreatB30
import Derived.Test.YtjofmoebijdccaaGreatB31
namespace Go.Proofs.YtjofmoebijdccaaGreat.back
open Go Go.RowKit Go.Proofs.YtjofmoebijdccaaGreat.rose Go.Proofs.YtjofmoebijdccaaGreat Go.Proofs.YtjofmoebijdccaaGreat.heap Go.Proofs.YtjofmoebijdccaaGreat.fun Go.Proofs.YtjofmoebijdccaaGreat.words Go.Proofs.YtjofmoebijdccaaGreat.ints
set_option linter.unusedVariables false
set_option linter.unusedSimpArgs false

theorem infoVI : (Tryz.prog.info? 34).map (fun i => (i.zero, i.size, i.bytes)) = some (some (.agg #[.int .i64 0, .int .i64 0, .string ⟨#[]⟩, .slice none 0 0]), 4, 56) := by kernel_rfl
theorem own_sliceI {w : World} {base : Nat} {t : TypeId} {n : Nat} {v : Value} {xs : List Value} {k : Nat} (h : w.ownsRow base t k v n xs) : ∃ a c, v = .slice a n c := by
  rcases h.2 with ⟨rfl, h0⟩ | ⟨g, cap, cur, h1, -⟩
  · exact ⟨_, _, by rw [h0]⟩
  · exact ⟨_, _, h1⟩
theorem top_kids {ks : List data.DataD} {T : HeapD} {x : Int} {p : PD} {kids : List Int} (h : topB ks T x = some (p, kids)) : kids.length ≤ 63 := by
  unfold topB at h
  split at h
  · split at h
    · split at h
      · simp only [Option.some.injEq, Prod.mk.injEq] at h; rw [← h.2]; simp
      · split at h
        · cases h
        · split at h
          · rename_i hm
            simp only [Option.some.injEq, Prod.mk.injEq] at h
            rw [← h.2, List.length_take]
            have := many_in (T.1.getD (x / 2).toNat 0)
            omega
          · cases h
    · cases h
  · simp only [Option.some.injEq, Prod.mk.injEq] at h; rw [← h.2]; simp
theorem top_in {ks : List data.DataD} {T : HeapD} {x : Int} {p : PD} {kids : List Int} (h : topB ks T x = some (p, kids)) (hx1 : -9223372036854775808 ≤ x) (hx2 : x ≤ 9223372036854775807) : (-9223372036854775808 ≤ p.1 ∧ p.1 ≤ 9223372036854775807) ∧ (-9223372036854775808 ≤ p.2.1 ∧ p.2.1 ≤ 9223372036854775807) := by
  unfold topB at h
  repeat' (split at h)
  all_goals first
    | (cases h; done)
    | (simp only [Option.some.injEq, Prod.mk.injEq] at h; obtain ⟨⟨rfl, rfl, rfl⟩, -⟩ := h; dsimp only; omega)

set_option maxRecDepth 100000 in
set_option maxHeartbeats 8000000 in
/-- Too many within each other. -/
theorem read_zero {B hb hm : Nat} {wv : Value} {W : List Int} {half base next : Nat} {M : List Bool} {ks : List data.DataD} {lo : Nat} {cv : Value} {kl : Nat} (d n : Nat) (D ρ x : Int) (w : World) (hD : D = 0) (hn : n ≤ 4000) (hρ : ρ = (n : Int)) (hx1 : -9223372036854775808 ≤ x) (hx2 : x ≤ 9223372036854775807)
    (hk : w.heap[kl]? = some (.cells #[.int .i64 ρ] 3)) (he : RE B hb hm wv W half base next M ks lo cv kl w) :
    Calls Tryz.prog 52 #[.int .i64 x, .func (.func 54) #[.agg #[.pointer (some ⟨hb, 0, none⟩), cv]] #[], .int .i64 D, .pointer (some ⟨kl, 0, none⟩)] w fun e w' => ReadOut B hb hm wv W half base next M kl w (backD (topB ks (W, (half : Int), (base : Int), (next : Int))) (0) (n) x) e w' := by
  have H0 : Hid (RK B hb hm wv W half base next M kl w _ ρ) := rk_new he hk
  have p1 : 0 ≤ ρ ∧ ρ ≤ 4001 := by omega
  have t0 : (D == 0) = true := by simp; omega
  have H0n : Hid (HH B hb hm wv W half base next 0 M w) := he.held
  have HN : Hid (backD (topB ks (W, (half : Int), (base : Int), (next : Int))) 0 n x = none) := rfl
  clear hk he hρ hD
  go_enter Tryz.func52, Tryz.ntmps52
  go_wp2_with fail
  refine bodyPost_ret (v := .tuple #[.agg #[.int .i64 0, .int .i64 0, .string ⟨#[]⟩, .slice none 0 0], .bool false]) (by simp [results, Tryz.f52, go_sem]) rfl ?_
  refine ⟨(Only.refl _ w).alloc _, H0n.out.on ((Below.refl _ _).alloc (Nat.le_refl _) _), fun _ => rfl, fun V q hq => ?_⟩
  rw [HN.out] at hq
  cases hq

set_option maxRecDepth 100000 in
set_option maxHeartbeats 8000000 in
/-- None is left. -/
theorem read_full {B hb hm : Nat} {wv : Value} {W : List Int} {half base next : Nat} {M : List Bool} {ks : List data.DataD} {lo : Nat} {cv : Value} {kl : Nat} (d n : Nat) (D ρ x : Int) (w : World) (hD1 : 1 ≤ D) (hD2 : D ≤ 200) (hn : n ≤ 4000) (hρ : ρ = 0) (hx1 : -9223372036854775808 ≤ x) (hx2 : x ≤ 9223372036854775807)
    (hk : w.heap[kl]? = some (.cells #[.int .i64 ρ] 3)) (he : RE B hb hm wv W half base next M ks lo cv kl w) :
    Calls Tryz.prog 52 #[.int .i64 x, .func (.func 54) #[.agg #[.pointer (some ⟨hb, 0, none⟩), cv]] #[], .int .i64 D, .pointer (some ⟨kl, 0, none⟩)] w fun e w' => ReadOut B hb hm wv W half base next M kl w (backD (topB ks (W, (half : Int), (base : Int), (next : Int))) (d + 1) (0) x) e w' := by
  have H0 : Hid (RK B hb hm wv W half base next M kl w _ ρ) := rk_new he hk
  have p1 : 0 ≤ ρ ∧ ρ ≤ 4001 := by omega
  have t0 : (D == 0) = false := by simp; omega
  have t1 : (ρ == 0) = true := by simp; omega
  have c1 := blkI (i := 0) H0.out.left rfl
  have H0n : Hid (HH B hb hm wv W half base next 0 M w) := he.held
  have HN : Hid (backD (topB ks (W, (half : Int), (base : Int), (next : Int))) (d + 1) 0 x = none) := back_full _ _ _
  clear hk he hρ
  go_enter Tryz.func52, Tryz.ntmps52
  go_wp2_with fail
  refine bodyPost_ret (v := .tuple #[.agg #[.int .i64 0, .int .i64 0, .string ⟨#[]⟩, .slice none 0 0], .bool false]) (by simp [results, Tryz.f52, go_sem]) rfl ?_
  refine ⟨(Only.refl _ w).alloc _, H0n.out.on ((Below.refl _ _).alloc (Nat.le_refl _) _), fun _ => rfl, fun V q hq => ?_⟩
  rw [HN.out] at hq
  cases hq

set_option maxRecDepth 100000 in
set_option maxHeartbeats 8000000 in
/-- Nothing stands on top. -/
theorem read_none {B hb hm : Nat} {wv : Value} {W : List Int} {half base next : Nat} {M : List Bool} {ks : List data.DataD} {lo : Nat} {cv : Value} {kl : Nat} (d n : Nat) (D ρ x : Int) (w : World) (hD1 : 1 ≤ D) (hD2 : D ≤ 200) (hn : n ≤ 4000) (hρ : ρ = (n : Int) + 1) (hx1 : -9223372036854775808 ≤ x) (hx2 : x ≤ 9223372036854775807)
    (hk : w.heap[kl]? = some (.cells #[.int .i64 ρ] 3)) (he : RE B hb hm wv W half base next M ks lo cv kl w) (hKn : Known W half base next M) (htl : (data.spots 0 0 ks).length ≤ 1048576) (hnb : ∀ j (hj : j < (data.spots 0 0 ks).length), (data.spots 0 0 ks)[j].c.1.size ≤ 1048576) (ht : topB ks (W, (half : Int), (base : Int), (next : Int)) x = none) :
    Calls Tryz.prog 52 #[.int .i64 x, .func (.func 54) #[.agg #[.pointer (some ⟨hb, 0, none⟩), cv]] #[], .int .i64 D, .pointer (some ⟨kl, 0, none⟩)] w fun e w' => ReadOut B hb hm wv W half base next M kl w (backD (topB ks (W, (half : Int), (base : Int), (next : Int))) (d + 1) (n + 1) x) e w' := by
  have H0 : Hid (RK B hb hm wv W half base next M kl w _ ρ) := rk_new he hk
  have p1 : 0 ≤ ρ ∧ ρ ≤ 4001 := by omega
  have t0 : (D == 0) = false := by simp; omega
  have t1 : (ρ == 0) = false := by simp; omega
  have HR : Hid (ρ - 1 = (n : Int)) := by show _ = _; omega
  have H1 : Hid (RK B hb hm wv W half base next M kl w ((w.alloc (.cells #[.int .i64 0, .int .i64 0, .string ⟨#[]⟩, .slice none 0 0] 34)).setCell ⟨kl, 0, none⟩ (.int .i64 (ρ - 1))) (ρ - 1)) := H0.out.put _
  have c1 : (w.alloc (.cells #[.int .i64 0, .int .i64 0, .string ⟨#[]⟩, .slice none 0 0] 34)).cell? ⟨kl, 0, none⟩ = some (.int .i64 ρ) := blkI (i := 0) H0.out.left rfl
  have c1f : (w.alloc (.cells #[.int .i64 0, .int .i64 0, .string ⟨#[]⟩, .slice none 0 0] 34)).frozen? ⟨kl, 0, none⟩ = false := frzI H0.out.left
  have S1 : Hid ((((w.alloc (.cells #[.int .i64 0, .int .i64 0, .string ⟨#[]⟩, .slice none 0 0] 34)).setCell ⟨kl, 0, none⟩ (.int .i64 (ρ - 1)))).heap.size = w.heap.size + 1) := by show _ = _; simp [World.setCell]
  have hcall := top_any H1.out.held hKn ks lo cv (H1.out.env he).cons (fun g hg => ((H1.out.env he).ne g hg).1) htl hnb x hx1 hx2
  have HE : Hid (RE B hb hm wv W half base next M ks lo cv kl w) := he
  rw [ht] at hcall
  have HN : Hid (backD (topB ks (W, (half : Int), (base : Int), (next : Int))) (d + 1) (n + 1) x = none) := back_none ht
  clear hk he hρ ht hnb
  go_enter Tryz.func52, Tryz.ntmps52
  go_wp2_with fail
  refine hcall.mono ?_
  rintro e w2 ho
  obtain rfl := ho.no rfl
  have H2 : Hid (RK B hb hm wv W half base next M kl w w2 (ρ - 1)) := H1.out.top ho.only ho.held
  have H3 : Hid (RK B hb hm wv W half base next M kl w (w2.alloc (.cells #[.int .i64 0, .int .i64 0, .string ⟨#[]⟩, .slice none 0 0] 34)) (ρ - 1)) := H2.out.on ((Below.refl _ _).alloc (Nat.le_refl _) _)
  clear hcall ho c1 c1f
  have r0 : World.cell? _ ⟨w.heap.size, 0, none⟩ = some (.int .i64 0) := blkI (i := 0) H3.out.res rfl
  have r1 : World.cell? _ ⟨w.heap.size, 1, none⟩ = some (.int .i64 0) := blkI (i := 1) H3.out.res rfl
  have r2 : World.cell? _ ⟨w.heap.size, 2, none⟩ = some (.string ⟨#[]⟩) := blkI (i := 2) H3.out.res rfl
  have r3 : World.cell? _ ⟨w.heap.size, 3, none⟩ = some (.slice none 0 0) := blkI (i := 3) H3.out.res rfl
  have fr : ∀ o, World.frozen? _ ⟨w.heap.size, o, none⟩ = false := fun o => frzI H3.out.res
  go_wp2
  refine bodyPost_ret (v := .tuple #[.agg #[.int .i64 0, .int .i64 0, .string ⟨#[]⟩, .slice none 0 0], .bool false]) (by simp [results, Tryz.f52, go_sem, r0, r1, r2, r3]) rfl ?_
  exact rk_no H3.out.only H3.out.held H3.out.hbl HN.out rfl _ _ _ _

set_option maxRecDepth 100000 in
set_option maxHeartbeats 8000000 in
/-- Something does, with its kids. -/
theorem read_some {B hb hm : Nat} {wv : Value} {W : List Int} {half base next : Nat} {M : List Bool} {ks : List data.DataD} {lo : Nat} {cv : Value} {kl : Nat} (d n : Nat) (D ρ x : Int) (w : World) (hD1 : 1 ≤ D) (hD2 : D ≤ 200) (hn : n ≤ 4000) (hρ : ρ = (n : Int) + 1) (hx1 : -9223372036854775808 ≤ x) (hx2 : x ≤ 9223372036854775807)
    (hk : w.heap[kl]? = some (.cells #[.int .i64 ρ] 3)) (he : RE B hb hm wv W half base next M ks lo cv kl w) (hKn : Known W half base next M) (htl : (data.spots 0 0 ks).length ≤ 1048576) (hnb : ∀ j (hj : j < (data.spots 0 0 ks).length), (data.spots 0 0 ks)[j].c.1.size ≤ 1048576) (hDd : D - 1 = (d : Int)) (IH : ReadSays B hb hm wv W half base next M ks lo cv kl d) (x0 x1 : Int) (x2 : ByteArray) (kids : List Int) (ht : topB ks (W, (half : Int), (base : Int), (next : Int)) x = some ((x0, x1, x2), kids)) :
    Calls Tryz.prog 52 #[.int .i64 x, .func (.func 54) #[.agg #[.pointer (some ⟨hb, 0, none⟩), cv]] #[], .int .i64 D, .pointer (some ⟨kl, 0, none⟩)] w fun e w' => ReadOut B hb hm wv W half base next M kl w (backD (topB ks (W, (half : Int), (base : Int), (next : Int))) (d + 1) (n + 1) x) e w' := by
  have H0 : Hid (RK B hb hm wv W half base next M kl w _ ρ) := rk_new he hk
  have p1 : 0 ≤ ρ ∧ ρ ≤ 4001 := by omega
  have t0 : (D == 0) = false := by simp; omega
  have t1 : (ρ == 0) = false := by simp; omega
  have HR : Hid (ρ - 1 = (n : Int)) := by show _ = _; omega
  have H1 : Hid (RK B hb hm wv W half base next M kl w ((w.alloc (.cells #[.int .i64 0, .int .i64 0, .string ⟨#[]⟩, .slice none 0 0] 34)).setCell ⟨kl, 0, none⟩ (.int .i64 (ρ - 1))) (ρ - 1)) := H0.out.put _
  have c1 : (w.alloc (.cells #[.int .i64 0, .int .i64 0, .string ⟨#[]⟩, .slice none 0 0] 34)).cell? ⟨kl, 0, none⟩ = some (.int .i64 ρ) := blkI (i := 0) H0.out.left rfl
  have c1f : (w.alloc (.cells #[.int .i64 0, .int .i64 0, .string ⟨#[]⟩, .slice none 0 0] 34)).frozen? ⟨kl, 0, none⟩ = false := frzI H0.out.left
  have S1 : Hid ((((w.alloc (.cells #[.int .i64 0, .int .i64 0, .string ⟨#[]⟩, .slice none 0 0] 34)).setCell ⟨kl, 0, none⟩ (.int .i64 (ρ - 1)))).heap.size = w.heap.size + 1) := by show _ = _; simp [World.setCell]
  have hcall := top_any H1.out.held hKn ks lo cv (H1.out.env he).cons (fun g hg => ((H1.out.env he).ne g hg).1) htl hnb x hx1 hx2
  have HE : Hid (RE B hb hm wv W half base next M ks lo cv kl w) := he
  rw [ht] at hcall
  have HP := top_in ht hx1 hx2
  have HPI : Hid ((-9223372036854775808 ≤ x0 ∧ x0 ≤ 9223372036854775807) ∧ (-9223372036854775808 ≤ x1 ∧ x1 ≤ 9223372036854775807)) := HP
  have HT : Hid (topB ks (W, (half : Int), (base : Int), (next : Int)) x = some ((x0, x1, x2), kids)) := ht
  have HI : Hid (ReadSays B hb hm wv W half base next M ks lo cv kl d) := IH
  have HD : Hid (D - 1 = (d : Int)) := hDd
  obtain ⟨ti, hti, hzz⟩ := Option.map_eq_some_iff.1 infoVI
  simp only [Prod.mk.injEq] at hzz
  obtain ⟨hz0, hz1, hz2⟩ := hzz
  have TI : Hid (Tryz.prog.info? 34 = some ti ∧ ti.zero = some (.agg #[.int .i64 0, .int .i64 0, .string ⟨#[]⟩, .slice none 0 0]) ∧ ti.size = 4 ∧ ti.bytes = 56) := ⟨hti, hz0, hz1, hz2⟩
  clear hk he hρ ht hnb HP IH hDd hti hz0 hz1 hz2
  go_enter Tryz.func52, Tryz.ntmps52
  go_wp2_with fail
  refine hcall.mono ?_
  rintro e w2 ho
  obtain ⟨hsz2, kv, rfl, hrow⟩ := ho.yes _ _ rfl
  dsimp only at hsz2
  obtain ⟨ak, ck, rfl⟩ := own_sliceI hrow.1
  have H2 : Hid (RK B hb hm wv W half base next M kl w w2 (ρ - 1)) := H1.out.top ho.only ho.held
  have H3 : Hid (RK B hb hm wv W half base next M kl w (w2.alloc (.cells #[.int .i64 x0, .int .i64 x1, .string x2, .slice none 0 0] 34)) (n : Int)) := by have := H2.out.on ((Below.refl w2.heap.size w2).alloc (Nat.le_refl _) (.cells #[.int .i64 x0, .int .i64 x1, .string x2, .slice none 0 0] 34)); rw [HR.out] at this; exact this
  have HS2 : Hid (x2.size ≤ maxLen) := hsz2
  have hz2 : w.heap.size + 1 ≤ w2.heap.size := (Array.getElem?_eq_some_iff.1 H2.out.res).1
  have HROW : Hid (IRow w2 (w.heap.size + 1) (.slice ak kids.length ck) kids) := by have := hrow; rw [S1.out] at this; exact this
  have hkl9 : (kids.length : Int) ≤ 9223372036854775807 := by
    rcases hrow.open with ⟨-, h⟩ | ⟨g, cap, h, -, -, h1, h2, -⟩
    · rw [h]; simp
    · unfold maxLen at h2; omega
  have hk63 : kids.length ≤ 2000000 := by
    have := top_kids HT.out; omega
  clear hcall ho c1 c1f hrow hsz2
  go_wp2
  go_loopw [43] (fun v43 wr => ∃ (i q : Nat) (v : Value) (vs : List VD), i ≤ kids.length ∧ v43 = .int .i64 (i : Nat) ∧ q ≤ 4000 ∧ Hid (RL B hb hm wv W half base next M kl w wr w2.heap.size (q : Int) (x0, x1, x2) v (.slice ak kids.length ck) kids vs) ∧ Hid (Stand (backD (topB ks (W, (half : Int), (base : Int), (next : Int))) d) n kids i vs q)) (fun v43 _ => kids.length - (intOf v43).toNat)
  case atStart =>
    refine ⟨0, n, .slice none 0 0, [], Nat.zero_le _, rfl, by omega, ⟨H3.out, alloc_top _ _, hz2, HROW.out.keep ((Below.refl _ _).alloc (Nat.le_refl _) _), fun q hq => (HROW.out.lt q hq).2, Grown.nil _ _ _ _⟩, Stand.start _ _ _⟩
  case round =>
    obtain ⟨i, q, v, vs, hi, rfl, hq4, HL, HST⟩ := hrel
    have hgl := HL.out.only
    have hkl := HL.out.rk.klt
    have hbl := HL.out.rk.hbl
    by_cases hlt : i < kids.length
    · rcases HL.out.row.open with ⟨-, h0⟩ | ⟨gk, cap, ek, hg1, hg2, -, -, hat, -⟩
      · rw [h0] at hlt; cases hlt
      cases ek
      have ey := hat i hlt
      have hyr := HL.out.row.2 _ (List.getElem_mem hlt)
      obtain ⟨y, hy⟩ : ∃ y, y = kids[i] := ⟨_, rfl⟩
      rw [← hy] at ey hyr
      have HY : Hid (kids[i] = y) := hy.symm
      have hcall := HI.out q y wr hq4 hyr.1 hyr.2 HL.out.rk.left (HL.out.rk.env HE.out)
      rw [← HD.out] at hcall
      clear hat hy hyr
      rcases hrr : backD (topB ks (W, (half : Int), (base : Int), (next : Int))) d q y with _ | ⟨V, q'⟩
      · have HNO : Hid (backD (topB ks (W, (half : Int), (base : Int), (next : Int))) (d + 1) (n + 1) x = none) := back_rowno HT.out (HST.out.fail hlt (by rw [HY.out]; exact hrr))
        go_wp2_with fail
        refine hcall.mono ?_
        rintro e w4 ho
        obtain rfl := ho.no hrr
        have O4 : Hid (Only (fun b => b = hb ∨ b = kl) w (w4.alloc (.cells #[.int .i64 0, .int .i64 0, .string ⟨#[]⟩, .slice none 0 0] 34))) := (HL.out.rk.only.trans ho.only).alloc _
        have H4 : Hid (HH B hb hm wv W half base next 0 M (w4.alloc (.cells #[.int .i64 0, .int .i64 0, .string ⟨#[]⟩, .slice none 0 0] 34))) := ho.held.on ((Below.refl _ _).alloc (Nat.le_refl _) _)
        have R4 : Hid ((w4.alloc (.cells #[.int .i64 0, .int .i64 0, .string ⟨#[]⟩, .slice none 0 0] 34)).heap[w.heap.size]? = some (.cells #[.int .i64 0, .int .i64 0, .string ⟨#[]⟩, .slice none 0 0] 34)) := (Below.heap_alloc _ _ _ (by have := ho.only.size; omega)).trans ((ho.only.block _ (by omega) (by omega)).trans HL.out.rk.res)
        clear hcall ho
        have r0 : World.cell? _ ⟨w.heap.size, 0, none⟩ = some (.int .i64 0) := blkI (i := 0) R4.out rfl
        have r1 : World.cell? _ ⟨w.heap.size, 1, none⟩ = some (.int .i64 0) := blkI (i := 1) R4.out rfl
        have r2 : World.cell? _ ⟨w.heap.size, 2, none⟩ = some (.string ⟨#[]⟩) := blkI (i := 2) R4.out rfl
        have r3 : World.cell? _ ⟨w.heap.size, 3, none⟩ = some (.slice none 0 0) := blkI (i := 3) R4.out rfl
        have fr : ∀ o, World.frozen? _ ⟨w.heap.size, o, none⟩ = false := fun o => frzI R4.out
        go_wp2
        refine bodyPost_ret (v := .tuple #[.agg #[.int .i64 0, .int .i64 0, .string ⟨#[]⟩, .slice none 0 0], .bool false]) (by simp [results, Tryz.f52, go_sem, r0, r1, r2, r3]) rfl ?_
        exact rk_no O4.out H4.out hbl HNO.out rfl _ _ _ _
      · have HST2 : Hid (Stand (backD (topB ks (W, (half : Int), (base : Int), (next : Int))) d) n kids (i + 1) (vs ++ [V]) q') := HST.out.step hlt (by rw [HY.out]; exact hrr)
        have hq5 : q' ≤ 4000 := by have := back_left hrr; omega
        go_wp2_with fail
        refine hcall.mono ?_
        rintro e w4 ho
        obtain ⟨⟨cs', rfl, hrep⟩, hwk⟩ := ho.yes V q' hrr
        obtain ⟨n0, n1, n2, n3, rfl⟩ := value.value_list (value.valuep_rep hrep)
        have ON : Hid (∀ u ∈ [n0, n1, n2, n3], u.oneCell' = true) := value.valueSp.one hrep
        have on0 := ON.out n0 (by simp)
        have on1 := ON.out n1 (by simp)
        have on2 := ON.out n2 (by simp)
        have on3 := ON.out n3 (by simp)
        have so0 := fun (a : Addr) (m : Mode) (w : World) => run_store Tryz.prog w a n0 m on0
        have so1 := fun (a : Addr) (m : Mode) (w : World) => run_store Tryz.prog w a n1 m on1
        have so2 := fun (a : Addr) (m : Mode) (w : World) => run_store Tryz.prog w a n2 m on2
        have so3 := fun (a : Addr) (m : Mode) (w : World) => run_store Tryz.prog w a n3 m on3
        have hz4 := ho.only.size
        have HO4 : Hid (Only (fun b => b = hb ∨ b = kl) wr w4 ∧ HH B hb hm wv W half base next 0 M w4 ∧ w4.heap[kl]? = some (.cells #[.int .i64 (q' : Nat)] 3) ∧ value.valueSp.rep w4 (fun b => wr.heap.size ≤ b ∧ b < w4.heap.size) [n0, n1, n2, n3] V) := ⟨ho.only, ho.held, hwk, hrep⟩
        obtain ⟨cssG, FG, grow, grep, gin, gap⟩ := HL.out.grown
        have GP : Hid ((∀ j (h : j < vs.length), value.valueSp.rep wr (FG j) (cssG j) vs[j]) ∧ (∀ j, j < vs.length → ∀ b, FG j b → w2.heap.size + 1 ≤ b ∧ b < wr.heap.size ∧ v.ownBlock ≠ some b) ∧ ∀ j l, j < vs.length → l < vs.length → j ≠ l → ∀ b, FG j b → ¬ FG l b) := ⟨grep, gin, gap⟩
        have HVO : Hid (∀ q, v.ownBlock = some q → w2.heap.size + 1 ≤ q ∧ q < wr.heap.size) := fun q hq => HL.out.grown.own hq
        have hO4 : w4.heap[w2.heap.size]? = some (.cells #[.int .i64 x0, .int .i64 x1, .string x2, v] 34) := (ho.only.block _ hgl (by omega)).trans HL.out.out
        have hO5 : (w4.alloc (.cells #[n0, n1, n2, n3] 34)).heap[w2.heap.size]? = some (.cells #[.int .i64 x0, .int .i64 x1, .string x2, v] 34) := (Below.heap_alloc _ _ _ (by omega)).trans hO4
        have z3 : (w4.alloc (.cells #[n0, n1, n2, n3] 34)).cell? ⟨w2.heap.size, 3, none⟩ = some v := blkI (i := 3) hO5 rfl
        have y0 : (w4.alloc (.cells #[n0, n1, n2, n3] 34)).cell? ⟨w4.heap.size, 0, none⟩ = some n0 := blkI (i := 0) (alloc_top _ _) rfl
        have y1 : (w4.alloc (.cells #[n0, n1, n2, n3] 34)).cell? ⟨w4.heap.size, 1, none⟩ = some n1 := blkI (i := 1) (alloc_top _ _) rfl
        have y2 : (w4.alloc (.cells #[n0, n1, n2, n3] 34)).cell? ⟨w4.heap.size, 2, none⟩ = some n2 := blkI (i := 2) (alloc_top _ _) rfl
        have y3 : (w4.alloc (.cells #[n0, n1, n2, n3] 34)).cell? ⟨w4.heap.size, 3, none⟩ = some n3 := blkI (i := 3) (alloc_top _ _) rfl
        have RA : Hid (((w4.alloc (.cells #[n0, n1, n2, n3] 34)).alloc (.cells #[n0, n1, n2, n3] 34)).ownsRow (w2.heap.size + 1) 34 4 v vs.length (flat cssG vs.length)) := by
          refine own_same grow fun q hq => ?_
          have := HVO.out q hq
          rw [Below.heap_alloc _ _ _ (by simp; omega), Below.heap_alloc _ _ _ (by omega), ho.only.block q (by omega) (by omega)]
        have hvl : vs.length ≤ 2000000 := by have := HST.out.1; omega
        have HO5 : Hid _ := hO5
        clear grow grep gin gap hrr hO5 hO4 hcall ho hwk hrep ey
        go_wp2_with (at_builtin; refine wpList_append_own_at _ rfl (.tmp 60) (.tmp 62) 32 rfl (w2.heap.size + 1) 34 ti _ 4 56 Tryz.underlying32 TI.out.1 TI.out.2.1 TI.out.2.2.1 TI.out.2.2.2 rfl (by decide) v vs.length _ rfl RA.out ⟨(w4.alloc (.cells #[n0, n1, n2, n3] 34)).heap.size, 0, none⟩ 1 1 [n0, n1, n2, n3] (by simp [Act.eval]) rfl (cells_new _ _ _ _ rfl) ON.out (by unfold maxLen; omega) (by omega) (by simp; omega) ?_; intro v6 w6 o6 g6 n6 e6
                     obtain ⟨a6, c6, rfl⟩ := own_form o6
                     have hO6 : w6.heap[w2.heap.size]? = some (.cells #[.int .i64 x0, .int .i64 x1, .string x2, v] 34) := (g6.block w2.heap.size (by simp; omega) (fun e => by have := HVO.out _ e.symm; omega)).trans ((Below.heap_alloc _ _ _ (by simp; omega)).trans HO5.out)
                     have x6 : w6.cell? ⟨w2.heap.size, 3, none⟩ = some v := blkI (i := 3) hO6 rfl
                     have xf6 : w6.frozen? ⟨w2.heap.size, 3, none⟩ = false := frzI hO6)
        have NX : Hid (RL B hb hm wv W half base next M kl w (w6.setCell ⟨w2.heap.size, 3, none⟩ (.slice a6 (vs.length + 1) c6)) w2.heap.size (q' : Int) (x0, x1, x2) (.slice a6 (vs.length + 1) c6) (.slice (some ⟨gk, 0, none⟩) kids.length ck) kids (vs ++ [V])) := HL.out.kid GP.out.1 GP.out.2.1 GP.out.2.2 HO4.out.1 HO4.out.2.1 HO4.out.2.2.1 HO4.out.2.2.2 o6 g6 e6
        clear o6 g6 n6 e6 z3 y0 y1 y2 y3 RA
        go_wp2
        go_round
        case rel => exact ⟨i + 1, q', _, _, by omega, by go_num, hq5, NX, HST2⟩
        case measure => simp [intOf]; omega
    · obtain rfl : i = kids.length := by omega
      have HV : Hid (backD (topB ks (W, (half : Int), (base : Int), (next : Int))) (d + 1) (n + 1) x = some (.mk (x0, x1, x2) vs, q)) := back_row HT.out HST.out.done
      obtain ⟨av, cv', rfl⟩ := HL.out.grown.slice
      have g0 := blkI (i := 0) HL.out.out rfl
      have g1 := blkI (i := 1) HL.out.out rfl
      have g2 := blkI (i := 2) HL.out.out rfl
      have g3 := blkI (i := 3) HL.out.out rfl
      have r0 : World.cell? wr ⟨w.heap.size, 0, none⟩ = some (.int .i64 0) := blkI (i := 0) HL.out.rk.res rfl
      have r1 : World.cell? wr ⟨w.heap.size, 1, none⟩ = some (.int .i64 0) := blkI (i := 1) HL.out.rk.res rfl
      have r2 : World.cell? wr ⟨w.heap.size, 2, none⟩ = some (.string ⟨#[]⟩) := blkI (i := 2) HL.out.rk.res rfl
      have r3 : World.cell? wr ⟨w.heap.size, 3, none⟩ = some (.slice none 0 0) := blkI (i := 3) HL.out.rk.res rfl
      have fr : ∀ o, World.frozen? wr ⟨w.heap.size, o, none⟩ = false := fun o => frzI HL.out.rk.res
      go_wp2
      refine bodyPost_ret (v := .tuple #[.agg #[.int .i64 x0, .int .i64 x1, .string x2, .slice av vs.length cv'], .bool true]) (by simp [results, Tryz.f52, go_sem, r0, r1, r2, r3]) rfl ?_
      exact rl_end HL.out ⟨HPI.out.1, HPI.out.2, HS2.out⟩ HV.out rfl _ _ _ _

end Go.Proofs.YtjofmoebijdccaaGreat.back

/-
  The program's iterator over the types of all cons and all that is within them: what it hands over are just these, each at least once.
-/
import Derived.Test.YtemcncmghnekdaaTypesPure
import Derived.Test.YtemcncmghnekdaaConsOfA
import Derived.Test.YtemcncmghnekdaaRangeC
import Derived.Test.YtemcncmghnekdaaPlaceOf
import Derived.Test.YtemcncmghnekdaaPtrMap
import Derived.Test.YtemcncmghnekdaaOwnMore
namespace Go.Proofs.Ytemcncmghnekdaa.data
open Go.RowKit Go.Shelf Go.Proofs.Ytemcncmghnekdaa.rose Go.Proofs.Ytemcncmghnekdaa.rangeb Go.Proofs.Ytemcncmghnekdaa
set_option linter.unusedVariables false
set_option linter.unusedSimpArgs false
attribute [local go_sem] Oper.semAt_some

theorem sole : ty.tySh.Sole := (Sh.int_sole.pair (Sh.int_sole.pair Sh.str_sole)).rose

/-- What is handed over: a type, and where its kids lie. -/
structure TPart (w : World) (S : Nat → Prop) where
  T : ty.TyD
  a : Option Addr
  c : Nat
  rep : ty.tySh.rep w S [.int .i64 T.x.1, .int .i64 T.x.2.1, .string T.x.2.2, .slice a T.kids.length c] T

def encT {w : World} {S : Nat → Prop} (x : TPart w S) : Value := .agg #[.int .i64 x.T.x.1, .int .i64 x.T.x.2.1, .string x.T.x.2.2, .slice x.a x.T.kids.length x.c]
def encTs {w : World} {S : Nat → Prop} (x : TPart w S) : Array Value := #[encT x]

set_option maxRecDepth 100000 in
theorem info_list : (Try.prog.info? 35).map (fun i => (i.zero, i.size, i.bytes)) = some (some (.slice none 0 0), 1, 24) := by kernel_rfl
theorem info_tyD : (Try.prog.info? 74).map (fun i => i.size) = some 4 := by kernel_rfl

theorem zeroIntT (w : World) : (zeroValue 3).run Try.prog w = .ok (.int .i64 0) w := by kernel_rfl

/-- The stack's entry of a con. -/
def entry {w : World} {S : Nat → Prop} (x : CPartA w S) : Value := .slice x.a x.s.c.2.length x.c

theorem row_cell {w : World} {base : Nat} {t : TypeId} {g n cap : Nat} {xs : List Value} (h : w.ownsRow base t 1 (.slice (some ⟨g, 0, none⟩) n cap) n xs) {i : Nat} {u : Value} (hi : xs[i]? = some u) : w.cell? ⟨g, i, none⟩ = some u := by
  rcases h.2 with ⟨h, _⟩ | ⟨g', cap', cur, h1, h2, h3, h4, h5, h6, h7⟩
  · cases h
  · cases h1
    have hl := h.1
    have hlt : i < n * 1 := by
      have := (List.getElem?_eq_some_iff.1 hi).1
      omega
    rw [← h7, List.getElem?_take, if_pos hlt] at hi
    simp only [World.cell?, h3]
    rw [Array.getElem?_toList] at hi
    exact hi

theorem two (w : World) (A B : Obj) (WL : World) (h : WL = (w.alloc A).alloc B) : WL.heap.size = w.heap.size + 2 ∧ Below w.heap.size w WL ∧ WL.heap[w.heap.size]? = some A ∧ WL.heap[w.heap.size + 1]? = some B := by
  subst h
  refine ⟨by simp, ((Below.refl _ w).alloc (Nat.le_refl _) _).alloc (by simp) _, (Below.heap_alloc _ _ _ (by simp)).trans (alloc_top _ _), ?_⟩
  have := alloc_top (w.alloc A) B
  rwa [World.size_alloc] at this

/-- WHERE THE GOING-THROUGH STANDS: pre was handed over, st lies on the stack, m was met, cur is being gone through. -/
structure Mid (w : World) (S : Nat → Prop) (n₀ : Nat) (ks : List DataD) (J : List (TPart w S) → World → Prop) (Z M D : Nat) (wr : World) (v : Value) (pre : List (TPart w S)) (st : List (Value × List ty.TyD)) (m : List (Addr × Int)) (cur : Option (List ty.TyD)) (rest : Nat) : Prop where
  box : wr.heap[Z]? = some (.cells #[v] 94)
  row : wr.ownsRow (Z + 4) 35 1 v st.length (st.map fun e => e.1)
  held : J pre wr
  low : ∀ b, b < n₀ → wr.heap[b]? = w.heap[b]?
  size : Z + 4 ≤ wr.heap.size
  map : PMap wr M m
  dfr : wr.heap[D]? = some (.deferred (some []))
  reps : ∀ e ∈ st, ty.tySh.slice.rep w S [e.1] e.2
  pend : Pend ks (pre.map fun y => y.T) (st.map fun e => e.2) cur
  met : ∀ p ∈ m, S p.1.block ∧ ∃ ts c, ty.tySh.slice.rep w S [.slice (some p.1) ts.length c] ts ∧ (ts.length : Int) = p.2 ∧ ((∀ t ∈ ts, t ∈ pre.map fun y => y.T) ∨ cur = some ts)
  cnt : pre.length + inside (st.map fun e => e.2) + rest ≤ (typesL ks).length

/-- Blocks that stay keep it. -/
theorem Mid.on {w : World} {S : Nat → Prop} {n₀ : Nat} {ks : List DataD} {J : List (TPart w S) → World → Prop} {Z M D : Nat} {wr wr' : World} {v : Value} {pre : List (TPart w S)} {st : List (Value × List ty.TyD)} {m : List (Addr × Int)} {cur : Option (List ty.TyD)} {rest : Nat}
    (h : Mid w S n₀ ks J Z M D wr v pre st m cur rest) (hJ : J pre wr') (hlow : ∀ b, b < n₀ → wr'.heap[b]? = wr.heap[b]?) (hhigh : ∀ b, Z ≤ b → b < wr.heap.size → wr'.heap[b]? = wr.heap[b]?) (hsz : wr.heap.size ≤ wr'.heap.size) (hZ : Z ≤ M) (hD : Z ≤ D) : Mid w S n₀ ks J Z M D wr' v pre st m cur rest where
  box := (hhigh Z (Nat.le_refl _) (by have := h.size; omega)).trans h.box
  row := row_on h.row fun g hg hlt => hhigh g (by omega) hlt
  held := hJ
  low := fun b hb => (hlow b hb).trans (h.low b hb)
  size := Nat.le_trans h.size hsz
  map := h.map.on (hhigh M hZ h.map.lt)
  dfr := (hhigh D hD (Array.getElem?_eq_some_iff.1 h.dfr).1).trans h.dfr
  reps := h.reps
  pend := h.pend
  met := h.met
  cnt := h.cnt

section
variable {w : World} {S : Nat → Prop} {n₀ : Nat} {ks : List DataD} {J : List (TPart w S) → World → Prop} {Z M D : Nat} {wr wr' : World} {v v' : Value} {pre : List (TPart w S)} {st : List (Value × List ty.TyD)} {m m' : List (Addr × Int)} {rest : Nat} {ts : List ty.TyD} {x : TPart w S}

theorem Mid.pop {e0 : Value} {g cap : Nat} (h : Mid w S n₀ ks J Z M D wr (.slice (some ⟨g, 0, none⟩) (st.length + 1) cap) pre (st ++ [(e0, ts)]) m none 0) (hJ : Of Z J) (hn : n₀ ≤ Z) (hM : Z < M) (hD : Z + 2 ≤ D) :
    Mid w S n₀ ks J Z M D (wr.setCell ⟨Z, 0, none⟩ (.slice (some ⟨g, 0, none⟩) st.length cap)) (.slice (some ⟨g, 0, none⟩) st.length cap) pre st m (some ts) (withS ts).length ∧ ∀ t ∈ withS ts, t ∈ typesL ks := by
  have hpd := h.pend
  rw [List.map_append] at hpd
  obtain ⟨p1, p2⟩ := hpd.pop
  have hrow := h.row
  rw [List.length_append, List.length_singleton, List.map_append] at hrow
  have hr1 := shrink hrow
  rw [List.take_left' (by simp)] at hr1
  refine ⟨⟨?_, ?_, ?_, ?_, ?_, ?_, ?_, ?_, p1, ?_, ?_⟩, p2⟩
  · simp [World.setCell, Array.getElem?_modify, h.box]
  · exact row_on hr1 fun q hq _ => Below.heap_setCell _ _ _ _ (by simp; omega)
  · exact hJ _ _ _ h.held ((Below.refl _ _).setCell (p := ⟨Z, 0, none⟩) (Nat.le_refl _) _)
  · exact fun b hb => (Below.heap_setCell _ _ _ _ (by simp; omega)).trans (h.low b hb)
  · rw [World.size_setCell]; exact h.size
  · exact h.map.on (Below.heap_setCell _ _ _ _ (by simp; omega))
  · exact (Below.heap_setCell _ _ _ _ (by simp; omega)).trans h.dfr
  · exact fun e he => h.reps e (by simp [he])
  · intro p hp
    obtain ⟨q1, q2, c, q3, q4, q5⟩ := h.met p hp
    exact ⟨q1, q2, c, q3, q4, q5.elim .inl fun h => by cases h⟩
  · have := h.cnt
    rw [List.map_append, inside_append] at this
    simp [inside] at this
    omega

theorem Mid.skip (h : Mid w S n₀ ks J Z M D wr v pre st m (some ts) rest) (hd : ∀ t ∈ ts, t ∈ pre.map fun y => y.T) : Mid w S n₀ ks J Z M D wr v pre st m none 0 where
  box := h.box
  row := h.row
  held := h.held
  low := h.low
  size := h.size
  map := h.map
  dfr := h.dfr
  reps := h.reps
  pend := h.pend.skip hd
  met := fun p hp => by
    obtain ⟨q1, q2, c, q3, q4, q5⟩ := h.met p hp
    refine ⟨q1, q2, c, q3, q4, .inl ?_⟩
    rcases q5 with q5 | q5
    · exact q5
    · simp only [Option.some.injEq] at q5; subst q5; exact hd
  cnt := by have := h.cnt; omega

theorem Mid.store (h : Mid w S n₀ ks J Z M D wr v pre st m (some ts) rest) (hJ : Of Z J) (hn : n₀ ≤ Z) (hM : Z < M) (hD : D ≠ M) {a : Addr} {c : Nat} (ha : S a.block) (hr : ty.tySh.slice.rep w S [.slice (some a) ts.length c] ts) (hg : wr.grownBy wr' (some M)) (hm : PMap wr' M m') (hmm : ∀ p ∈ m', p ∈ m ∨ p = (a, (ts.length : Int))) :
    Mid w S n₀ ks J Z M D wr' v pre st m' (some ts) rest := by
  have hb : ∀ b, b < wr.heap.size → b ≠ M → wr'.heap[b]? = wr.heap[b]? := fun b h1 h2 => hg.block b h1 fun e => h2 (Option.some.inj e)
  have hsz := h.size
  refine ⟨(hb Z (by omega) (by omega)).trans h.box, ?_, ?_, ?_, Nat.le_trans hsz hg.size, hm, (hb D (Array.getElem?_eq_some_iff.1 h.dfr).1 hD).trans h.dfr, h.reps, h.pend, ?_, h.cnt⟩
  · obtain ⟨hl, hv⟩ := h.row
    refine ⟨hl, ?_⟩
    rcases hv with h0 | ⟨q, cap, cur, h1, h2, h3, h4⟩
    · exact Or.inl h0
    · refine Or.inr ⟨q, cap, cur, h1, h2, ?_, h4⟩
      rw [hb q (Array.getElem?_eq_some_iff.1 h3).1 (fun e => ?_)]
      · exact h3
      · subst e
        obtain ⟨es, clock, hes, -⟩ := h.map
        rw [hes] at h3
        cases h3
  · exact hJ _ _ _ h.held ((Below.refl _ _).grown hg (by omega) (fun j hj => by cases hj; omega))
  · exact fun b hb' => (hb b (by omega) (by omega)).trans (h.low b hb')
  · intro p hp
    rcases hmm p hp with h1 | h1
    · exact h.met p h1
    · subst h1
      exact ⟨ha, ts, c, hr, rfl, .inr rfl⟩

theorem Mid.push (h : Mid w S n₀ ks J Z M D wr v pre st m (some ts) (rest + ((withS x.T.kids).length + 1))) (ht : x.T ∈ ts) (hs : ∀ t ∈ withS ts, t ∈ typesL ks) {kv : Value}
    (hbox : wr'.heap[Z]? = some (.cells #[v'] 94)) (hrow : wr'.ownsRow (Z + 4) 35 1 v' (st.length + 1) ((st.map fun e => e.1) ++ [kv])) (hJ : J (pre ++ [x]) wr') (hlow : ∀ b, b < n₀ → wr'.heap[b]? = wr.heap[b]?) (hsz : wr.heap.size ≤ wr'.heap.size) (hM : wr'.heap[M]? = wr.heap[M]?) (hD : wr'.heap[D]? = wr.heap[D]?)
    (hr : ty.tySh.slice.rep w S [kv] x.T.kids) : Mid w S n₀ ks J Z M D wr' v' (pre ++ [x]) (st ++ [(kv, x.T.kids)]) m (some ts) rest where
  box := hbox
  row := by rw [List.length_append, List.map_append]; exact hrow
  held := hJ
  low := fun b hb => (hlow b hb).trans (h.low b hb)
  size := Nat.le_trans h.size hsz
  map := h.map.on hM
  dfr := hD.trans h.dfr
  reps := fun e he => by
    rcases List.mem_append.1 he with h1 | h1
    · exact h.reps e h1
    · simp at h1; subst h1; exact hr
  pend := by
    rw [List.map_append, List.map_append]
    exact h.pend.step ht hs
  met := fun p hp => by
    obtain ⟨q1, q2, c, q3, q4, q5⟩ := h.met p hp
    exact ⟨q1, q2, c, q3, q4, q5.elim (fun q => .inl fun t ht => by rw [List.map_append]; exact List.mem_append.2 (.inl (q t ht))) .inr⟩
  cnt := by
    have := h.cnt
    rw [List.map_append, inside_append, List.length_append]
    simp [inside]
    omega
end

theorem ret_dfr {D : Nat} {W : World} (h : W.heap[D]? = some (.deferred (some []))) : True := trivial

set_option maxRecDepth 100000 in
set_option maxHeartbeats 4000000 in
theorem typesOf_stops (n : Nat) (hn : 4 ≤ n) (Bt n₀ : Nat) (S : Nat → Prop) (hSn : ∀ b, S b → b < n₀) (ks : List DataD) (v : Value) (w : World) (hB : Bt < w.heap.size) (hn0 : n₀ ≤ w.heap.size) (hP : ∀ b, S b → Plain w b)
    (hc : w.cell? ⟨Bt, 0, none⟩ = some v) (hrep : dataSh.slice.rep w S [v] ks) (hw : ks.length + wts ks ≤ 1048576) :
    SeqC Fence.wide n Try.prog 46 #[.pointer (some ⟨Bt, 0, none⟩)] (encTs (w := w) (S := S)) n₀ (fun xs => ∀ t, t ∈ xs.map (fun (y : TPart w S) => y.T) ↔ t ∈ typesL ks) (fun pre => ∀ t ∈ pre.map (fun (y : TPart w S) => y.T), t ∈ typesL ks) (typesL ks).length w := by
  intro l J Jx W hW hJ hJx hY h0
  have htl := total_le ks
  have htp := typesL_le ks
  have hmm := @run_makeMap Try.prog
  obtain ⟨ti, hti, hzz⟩ := Option.map_eq_some_iff.1 info_list
  simp only [Prod.mk.injEq] at hzz
  obtain ⟨hz0, hz1, hz2⟩ := hzz
  have TI : Hid (Try.prog.info? 35 = some ti ∧ ti.zero = some (.slice none 0 0) ∧ ti.size = 1 ∧ ti.bytes = 24) := ⟨hti, hz0, hz1, hz2⟩
  clear hti hz0 hz1 hz2
  have o0 := dataSh.slice.one hrep v (by simp)
  have c0 := (hW.cell (p := ⟨Bt, 0, none⟩) hB).trans hc
  have hBW : Bt < W.heap.size := Nat.lt_of_lt_of_le hB hW.size
  have HW : Hid (n₀ ≤ W.heap.size) := Nat.le_trans hn0 hW.size
  have LW : Hid (∀ b, b < n₀ → W.heap[b]? = w.heap[b]?) := fun b hb => hW.block b (Nat.lt_of_lt_of_le hb hn0)
  have HJ : Hid (Of W.heap.size J) := hJ
  have HJX : Hid (Of W.heap.size Jx) := hJx
  have HY : Hid _ := hY
  have HREP : Hid (dataSh.slice.rep w S [v] ks) := hrep
  have H0 : Hid (J [] W) := h0
  have HP : Hid (∀ b, S b → Plain w b) := hP
  clear hY hJ hJx hrep hc h0 hP
  obtain ⟨n', rfl⟩ : ∃ n', n = n' + 4 := ⟨n - 4, by omega⟩
  refine callsIn_of_wp_marks Try.func46 rfl trivial ?_ rfl
  simp only [Try.ntmps46, List.size_toArray, List.length_cons, List.length_nil, Nat.reduceAdd, Nat.reduceSub, Array.replicate_succ, Array.replicate_zero, List.push_toArray, List.append_toArray, List.nil_append, List.cons_append]
  gi_wp2_with (refine ⟨trivial, ?_⟩; gi_at_call 29; refine (consOf_in Fence.wide _ trivial rfl v _ o0).mono ?_; rintro e w' ⟨rfl, rfl⟩)
  obtain ⟨WL, hWL⟩ : ∃ WL, WL = (W.alloc (.cells #[.slice none 0 0] 94)).alloc (.cells #[v] 24) := ⟨_, rfl⟩
  obtain ⟨zL, bL, k0, k1⟩ := two W _ _ WL hWL
  rw [← hWL]
  clear hWL c0
  refine wpIn_rangeFunc_Ax (n₀ := n₀) (N := total ks) rfl (by omega) (gf := 45) (lb := #[.pointer (some ⟨W.heap.size + 1, 0, none⟩)]) rfl trivial (enters_of Try.func45 (by kernel_rfl) rfl) (by have := HW.out; omega)
    (consOf_stopsA Fence.wide _ trivial rfl (by omega) (W.heap.size + 1) n₀ S hSn ks v WL (by omega) (by have := HW.out; omega) (blk_cell k1 rfl) (dataSh.slice.on HREP.out fun b hb => (bL.block b (Nat.lt_of_lt_of_le (hSn b hb) HW.out)).trans (LW.out b (hSn b hb))) hw) (fun _ => rfl)
    (fun (pre : List (CPartA WL S)) W' => (∃ u, W'.heap[W.heap.size]? = some (.cells #[u] 94) ∧ W'.ownsRow (W.heap.size + 4) 35 1 u pre.length (pre.map entry)) ∧ J [] W' ∧ (∀ b, b < n₀ → W'.heap[b]? = w.heap[b]?) ∧ W.heap.size + 2 ≤ W'.heap.size)
    (fun c pre W' => False)
    (fun s A B hs hb => by
      obtain ⟨⟨u, h1, h2⟩, h3, h4, h5⟩ := hs
      exact ⟨⟨u, (hb.other _ (by omega) (by omega)).trans h1, row_on h2 fun g hg hlt => hb.other g hlt (by omega)⟩, HJ.out _ _ _ h3 (hb.below _ (by omega) (by omega)), fun b hb' => (hb.other b (by have := HW.out; omega) (by have := HW.out; omega)).trans (h4 b hb'), Nat.le_trans h5 hb.size⟩)
    (fun c s A B hs hb => hs)
    ⟨⟨_, k0, World.ownsRow_nil _ _ _ _⟩, HJ.out _ _ _ H0.out bL, fun b hb => (bL.block b (Nat.lt_of_lt_of_le hb HW.out)).trans (LW.out b hb), by omega⟩
    (fun x a' W' => ∃ By, W.heap.size + 4 ≤ By ∧ W'.heap[By]? = some (.cells #[.string x.s.c.1, .slice x.a x.s.c.2.length x.c] 37) ∧
      a' = { tmps := #[.func (.yield l) #[] #[], .pointer (some ⟨Bt, 0, none⟩), undef, .pointer (some ⟨W.heap.size, 0, none⟩), undef, .pointer (some ⟨By, 0, none⟩), undef, undef, undef, undef, undef, v, .func (.func 45) #[] #[.pointer (some ⟨W.heap.size + 1, 0, none⟩)], encPA x, encCA x, undef, undef, undef, undef, undef, undef, undef, undef, undef, undef, undef, undef, undef, undef, undef, undef, undef, undef, undef, undef, undef, undef, undef, undef, undef, undef, undef, undef, undef, undef, undef, undef, undef, undef, undef, undef, undef, undef, undef, undef, undef, undef, undef, undef, undef, undef, undef, undef, undef, undef, undef, undef], defers := [] })
    (fun x a' A B hA hb => by
      obtain ⟨By, h2, h4, h5⟩ := hA
      exact ⟨By, h2, (hb By (by omega)).trans h4, h5⟩) ?assign ?body ?done ?stop
  case assign =>
    intro l pre x W' K hi hz hK
    simp only [encsA, encPA, encCA]
    gi_wp2
    obtain ⟨⟨u, h1, h2⟩, h3, h4, h5⟩ := hi
    have hb : Below W'.heap.size W' (W'.alloc (.cells #[.string x.s.c.1, .slice x.a x.s.c.2.length x.c] 37)) := (Below.refl _ _).alloc (Nat.le_refl _) _
    exact hK _ _ ⟨hb.size, fun k hk => hb.block k (by have := HW.out; omega), hb.block _ (by omega), hb.block _ (by omega)⟩ ⟨⟨u, (hb.block _ (by omega)).trans h1, row_on h2 fun g hg hlt => hb.block g hlt⟩, HJ.out _ _ _ h3 (hb.mono (by omega)), fun b hb' => (hb.block b (by have := HW.out; omega)).trans (h4 b hb'), Nat.le_trans h5 hb.size⟩ ⟨W'.heap.size, by omega, alloc_top _ _, rfl⟩
  case body =>
    rintro l pre x a' W' ⟨⟨u, h1, h2⟩, h3, h4, h5⟩ hlen hz ⟨By, hBy, ey, rfl⟩
    have g1 := blk_cell ey (i := 1) rfl
    have m0 := blk_cell h1 (i := 0) rfl
    have p0 := blk_free (i := 0) h1
    have hone : (Value.slice x.a x.s.c.2.length x.c).oneCell' = true := rfl
    have H1 : Hid _ := h1
    have H3 : Hid _ := h3
    have H4 : Hid _ := h4
    have H2 : Hid (W'.ownsRow (W.heap.size + 4) 35 1 u pre.length (pre.map entry)) := h2
    have HOB : Hid (∀ g, u.ownBlock = some g → W.heap.size + 4 ≤ g) := fun g hg => by
      rcases h2.2 with ⟨rfl, _⟩ | ⟨g', cap, cur, rfl, h, _⟩
      · cases hg
      · simp only [Value.ownBlock, Option.some.injEq] at hg; omega
    have h2a : (W'.alloc (.cells #[.slice x.a x.s.c.2.length x.c] 35)).ownsRow (W.heap.size + 4) 35 1 u pre.length (pre.map entry) := row_on h2 fun g hg hlt => Below.heap_alloc _ _ _ hlt
    clear h1 h2 h3 h4 ey
    gi_wp2_with (gi_at_builtin; refine append_oneIn _ rfl _ _ 94 rfl (W.heap.size + 4) 35 ti _ 24 Try.underlying94 TI.out.1 TI.out.2.1 TI.out.2.2.1 TI.out.2.2.2 rfl u pre.length _ rfl h2a ⟨W'.heap.size, 0, none⟩ 1 (.slice x.a x.s.c.2.length x.c) rfl (cell_one_new _ _ _) rfl (by unfold maxLen; omega) (by omega) (by simp; omega) ?_; intro ua ul uc w1 hown1 hgrow1
                 have hZ : w1.heap[W.heap.size]? = some (.cells #[u] 94) := (hgrow1.block W.heap.size (by simp; omega) (fun e => by have := HOB.out _ e.symm; omega)).trans ((Below.heap_alloc _ _ _ (by omega)).trans H1.out)
                 have y0 := blk_cell (i := 0) hZ rfl
                 have y1 := blk_free (i := 0) hZ)
    have ha : Below W'.heap.size W' (W'.alloc (.cells #[.slice x.a x.s.c.2.length x.c] 35)) := (Below.refl _ _).alloc (Nat.le_refl _) _
    have hblk : ∀ g, g < W'.heap.size → g < W.heap.size + 4 → w1.heap[g]? = W'.heap[g]? := fun g h1 h2 => (hgrow1.block g (by simp; omega) (fun e => by have := HOB.out _ e.symm; omega)).trans (ha.block g h1)
    have hb1 : Below W.heap.size W' w1 := (ha.mono (by omega)).grown hgrow1 (by simp; omega) (fun g hg => by have := HOB.out _ hg; omega)
    have hz1 : W'.heap.size ≤ w1.heap.size := Nat.le_trans (by simp) hgrow1.size
    refine ⟨⟨by rw [World.size_setCell]; exact hz1, fun k hk => ?_, ?_, ?_⟩, ⟨.slice ua ul uc, ?_, ?_⟩, ?_, fun b hb => ?_, by rw [World.size_setCell]; omega⟩
    · rw [Below.heap_setCell _ _ _ _ (by have := HW.out; simp; omega)]; exact hblk k (by have := HW.out; omega) (by have := HW.out; omega)
    · rw [Below.heap_setCell _ _ _ _ (by simp; omega)]; exact hblk _ (by omega) (by omega)
    · rw [Below.heap_setCell _ _ _ _ (by simp; omega)]; exact hblk _ (by omega) (by omega)
    · simp [World.setCell, Array.getElem?_modify, hZ]
    · rw [List.length_append, List.map_append]
      exact row_on hown1 fun g hg hlt => Below.heap_setCell _ _ _ _ (by simp; omega)
    · exact HJ.out _ _ _ H3.out (hb1.setCell (p := ⟨W.heap.size, 0, none⟩) (by simp) _)
    · rw [Below.heap_setCell _ _ _ _ (by have := HW.out; simp; omega)]; exact (hblk b (by have := HW.out; omega) (by have := HW.out; omega)).trans (H4.out b hb)
  case done =>
    rintro D ys W' hD hS ⟨⟨u, h1, h2⟩, h3, h4, h5⟩ hK
    have hD2 : W.heap.size + 2 ≤ D := by omega
    have hDW : D < W'.heap.size := (Array.getElem?_eq_some_iff.1 hK).1
    have M0 : Mid w S n₀ ks J W.heap.size W'.heap.size D (W'.alloc (.map #[] 0)) u [] (ys.map fun x => (entry x, x.s.c.2)) [] none 0 := by
      have hb : Below W'.heap.size W' (W'.alloc (.map #[] 0)) := (Below.refl _ _).alloc (Nat.le_refl _) _
      refine ⟨(hb.block _ (by omega)).trans h1, ?_, HJ.out _ _ _ h3 (hb.mono (by omega)), fun b hb' => (hb.block b (by have := HW.out; omega)).trans (h4 b hb'), ?_, PMap.made _, (hb.block _ hDW).trans hK, fun e he => ?_, ?_, fun p hp => (by cases hp), ?_⟩
      · rw [List.length_map, List.map_map]
        exact row_on h2 fun g _ hlt => hb.block g hlt
      · simp; omega
      · obtain ⟨x, hx, rfl⟩ := List.mem_map.1 he
        obtain ⟨y0, y1, a1, c1, hT, hcs, -, hr⟩ := con.con_open x.rep
        simp only [List.cons.injEq, Value.slice.injEq, and_true] at hcs
        obtain ⟨-, h6, h7, h8⟩ := hcs
        have hy : x.s.c.2 = y1 := by rw [hT]
        simp only [entry, hy]
        rw [h6, h8]
        exact ty.tySh.slice.on hr fun b hb => ((bL.block b (Nat.lt_of_lt_of_le (hSn b hb) HW.out)).trans (LW.out b (hSn b hb))).symm
      · rw [List.map_nil, List.map_map]
        have := Pend.start ks
        rw [← hS, List.map_map] at this
        exact this
      · rw [List.map_map]
        have := inside_start (spots 0 0 ks)
        rw [← hS, List.map_map] at this
        simp only [List.length_nil, Nat.zero_add, Nat.add_zero]
        show _ ≤ (typesP (spots 0 0 ks)).length
        rw [← hS]
        exact Nat.le_of_eq this
    have MM : Hid _ := M0
    clear M0 h1 h2 h3 h4 hK
    gi_wp2
    have hMZ : W.heap.size ≤ W'.heap.size := by omega
    have HWE : Hid (weigh ((ys.map fun x => (entry x, x.s.c.2)).map fun e => e.2) ≤ 2097152) := by
      show _ ≤ _
      have h1 := inside_start (spots 0 0 ks)
      have h2 := spots_length 0 0 ks
      rw [← hS, List.map_map] at h1
      rw [← hS, List.length_map] at h2
      rw [weigh_eq, List.map_map, List.length_map, h2]
      have h3 : (typesP (ys.map fun x => x.s)).length ≤ wts ks := by rw [hS]; exact htp
      have h4 : inside (ys.map ((fun e => e.2) ∘ fun (x : CPartA WL S) => (entry x, x.s.c.2))) = (typesP (ys.map fun x => x.s)).length := h1
      omega
    obtain ⟨M, hM⟩ : ∃ M, M = W'.heap.size := ⟨_, rfl⟩
    have HMz : Hid (W.heap.size < M) := by show _ < _; omega
    have HDz : Hid (W.heap.size + 2 ≤ D) := hD2
    have HDM : Hid (D ≠ M) := by show _ ≠ _; omega
    rw [← hM] at MM ⊢
    clear hM hDW hMZ hD2
    gi_loopg [7] (weigh ((ys.map fun x => (entry x, x.s.c.2)).map fun e => e.2)) (fun k v7 wr => ∃ (v : Value) (pre : List (TPart w S)) (st : List (Value × List ty.TyD)) (m : List (Addr × Int)), k = weigh (st.map fun e => e.2) ∧ k ≤ 2097152 ∧ Hid (Mid w S n₀ ks J W.heap.size M D wr v pre st m none 0))
    case atStart => exact ⟨u, [], _, [], rfl, HWE.out, MM⟩
    case round =>
      obtain ⟨v0, pre, st, m, hk, hkb, HI⟩ := hrel
      clear MM
      have b0 := blk_cell (i := 0) HI.out.box rfl
      have b1 := blk_free (i := 0) HI.out.box
      rcases List.eq_nil_or_concat st with hst | ⟨st', ⟨e0, ts⟩, hst⟩
      · subst hst
        obtain ⟨va, vc, rfl⟩ : ∃ va vc, v0 = .slice va 0 vc := by
          rcases HI.out.row.2 with ⟨h, _⟩ | ⟨g, cap, cur, h, _⟩
          · exact ⟨_, _, h⟩
          · exact ⟨_, _, h⟩
        gi_wp2
        refine ⟨by simp, .inl ⟨_, _, rfl, run_takeDeferred HI.out.dfr, ?_⟩⟩
        refine ⟨_, results_none rfl _ _ _, ⟨_, rfl⟩, .inl ⟨pre, fun t => HI.out.pend.done t, HJ.out _ _ _ HI.out.held (put_below _ _ HI.out.dfr (by have := HDz.out; omega))⟩⟩
      · rw [List.concat_eq_append] at hst
        subst hst
        have hrow := HI.out.row
        rw [List.length_append, List.length_singleton, List.map_append] at hrow
        obtain ⟨g, cap, hv, hg, hcp⟩ : ∃ g cap, v0 = .slice (some ⟨g, 0, none⟩) (st'.length + 1) cap ∧ W.heap.size + 4 ≤ g ∧ cap ≤ maxLen := by
          rcases hrow.2 with ⟨_, h⟩ | ⟨g, cap, cur, h1, h2, h3, h4, h5, _⟩
          · simp at h
          · exact ⟨g, cap, h1, h2, h5⟩
        subst hv
        have hrt := HI.out.reps (e0, ts) (by simp)
        obtain ⟨a, c, he0⟩ := slice_cells hrt
        simp only [List.cons.injEq, and_true] at he0
        subst he0
        have e1 : wr.cell? ⟨g, st'.length, none⟩ = some (.slice a ts.length c) := row_cell hrow (by rw [List.getElem?_append_right (by simp)]; simp)
        have HRT : Hid (ty.tySh.slice.rep w S [.slice a ts.length c] ts) := hrt
        have hkw : gk = weigh (st'.map fun e => e.2) + ((withS ts).length + 1) := by
          rw [hk, List.map_append, weigh_append]; simp [weigh]
        have hjl : st'.length ≤ 2097152 := by
          have := length_le_weigh (st'.map fun e => e.2)
          rw [List.length_map] at this
          omega
        have htl2 : ts.length ≤ 2097152 := by
          have : ts.length ≤ (withS ts).length := by
            clear hkw hrt HRT e1 hrow HI hk
            induction ts with
            | nil => simp
            | cons t ts ih => rw [withS, List.length_append, withT_eq]; simp; omega
          omega
        obtain ⟨M1, M2⟩ := Mid.pop HI.out HJ.out HW.out HMz.out HDz.out
        obtain ⟨j, hj⟩ : ∃ j, j = st'.length := ⟨_, rfl⟩
        have HJL : Hid (j = st'.length) := hj
        have HKW : Hid (gk = weigh (st'.map fun e => e.2) + ((withS ts).length + 1)) := hkw
        rw [← hj] at e1 M1 hjl b0
        have HM2 : Hid _ := M2
        have hcj : j ≤ cap := by
          rcases hrow.2 with ⟨h, _⟩ | ⟨g', cap', cur, h1, h2, h3, h4, _⟩
          · cases h
          · cases h1; omega
        have HMET : Hid (∀ p ∈ m, ∃ ts' c', ty.tySh.slice.rep w S [.slice (some p.1) ts'.length c'] ts' ∧ (ts'.length : Int) = p.2 ∧ ∀ t ∈ ts', t ∈ pre.map fun y => y.T) := fun p hp => by
          obtain ⟨-, ts', c', q3, q4, q5⟩ := HI.out.met p hp
          exact ⟨ts', c', q3, q4, q5.elim id fun h => by cases h⟩
        clear hj hkw hk M2 hrow HI hrt
        cases hts : ts with
        | nil =>
          subst hts
          have HM1 : Hid _ := M1
          clear M1
          gi_wp2
          gi_roundg (weigh (st'.map fun e => e.2))
          case rel => exact ⟨_, pre, st', m, rfl, by have := HKW.out; omega, HM1.out.skip (by simp)⟩
          case measure => have := HKW.out; omega
        | cons t0 tr =>
          have hpos : 0 < ts.length := by rw [hts]; simp
          clear hts
          have hdone : ∀ {a : Option Addr}, ty.tySh.slice.rep w S [.slice a ts.length c] ts → ∃ b o, a = some ⟨b, o, none⟩ ∧ S b := fun h => by
            obtain ⟨a1, c1, css, ea, -, -, hrow, -⟩ := ty.tys_open h
            simp only [Value.slice.injEq, true_and] at ea
            obtain ⟨b, o, e, hSb, -⟩ := hrow 0 hpos
            exact ⟨b, o, by rw [ea.1, e], hSb⟩
          obtain ⟨b, o, rfl, hSb⟩ := hdone HRT.out
          clear hdone
          obtain ⟨ti2, hti2, hsz2⟩ := Option.map_eq_some_iff.1 info_tyD
          have hsz3 : ti2.size ≠ 0 := by rw [hsz2]; decide
          obtain ⟨w1, hw1⟩ : ∃ w1, w1 = wr.setCell ⟨W.heap.size, 0, none⟩ (.slice (some ⟨g, 0, none⟩) j cap) := ⟨_, rfl⟩
          have M1' := M1
          rw [← hw1] at M1
          have hpl : ∀ q, S q → Plain w1 q := fun q hq => (HP.out q hq).on (M1.low q (hSn q hq))
          obtain ⟨nn, hlook, hnn⟩ := M1.map.look (P := Try.prog) (a := ⟨b, o, none⟩) (t := 95) Try.underlying95 Try.underlying96 hti2 hsz3 (zeroIntT _) (hpl b hSb) (fun p hp => hpl _ (M1.met p hp).1)
          have hne1 : (((ts.length : Nat) : Int) == 0) = false := by simp; intro h; rw [h] at hpos; simp at hpos
          by_cases hle : (ts.length : Int) ≤ nn
          · have HM1 : Hid (Mid w S n₀ ks J W.heap.size M D w1 (.slice (some ⟨g, 0, none⟩) j cap) pre st' m none 0) := by
              refine Mid.skip M1 fun t ht => ?_
              rcases hnn with h | h
              · omega
              · obtain ⟨ts', c', q3, q4, q5⟩ := HMET.out _ h
                simp only at q4
                have e := sole.take HRT.out q3 (by omega)
                rw [e] at ht
                exact q5 t (List.mem_of_mem_take ht)
            subst hw1
            clear M1 M1' hnn
            gi_wp2
            gi_roundg (weigh (st'.map fun e => e.2))
            case rel => exact ⟨_, pre, st', m, rfl, by have := HKW.out; omega, HM1⟩
            case measure => have := HKW.out; omega
          · obtain ⟨w2, m', hst, hm', hmm', hg'⟩ := M1.map.store (P := Try.prog) (a := ⟨b, o, none⟩) (t := 95) Try.underlying95 Try.underlying96 hti2 hsz3 (hpl b hSb) (fun p hp => hpl _ (M1.met p hp).1) (ts.length : Int)
            have HM2' : Hid (Mid w S n₀ ks J W.heap.size M D w2 (.slice (some ⟨g, 0, none⟩) j cap) pre st' m' (some ts) (withS ts).length) := M1.store HJ.out HW.out HMz.out HDM.out (a := ⟨b, o, none⟩) hSb HRT.out hg' hm' hmm'
            subst hw1
            clear M1 M1' hnn hm' hmm' hg'
            gi_wp2
            obtain ⟨G, HG⟩ : ∃ G, Hid (G = gk) := ⟨_, rfl⟩
            have HG0 : Hid (weigh (st'.map fun e => e.2) + (withS (ts.drop 0)).length + 1 = G) := by
              show _ = _
              rw [HG.out, HKW.out, List.drop_zero]; omega
            have HG1 : Hid (G ≤ 2097152) := by show _ ≤ _; rw [HG.out]; exact hkb
            clear hlook hst HKW hkb
            rename World => wo
            gi_loopg [53] (ts.length) (fun k v53 wi => ∃ (q : Nat) (v1 : Value) (pre1 : List (TPart w S)) (st1 : List (Value × List ty.TyD)), k + q = ts.length ∧ v53 = .int .i64 q ∧ Hid (Mid w S n₀ ks J W.heap.size M D wi v1 pre1 st1 m' (some ts) (withS (ts.drop q)).length ∧ weigh (st1.map fun e => e.2) + (withS (ts.drop q)).length + 1 = G ∧ ∀ t ∈ ts.take q, t ∈ pre1.map fun y => y.T))
            case atStart => exact ⟨0, _, pre, st', rfl, rfl, HM2'.out, HG0.out, by simp⟩
            case round =>
              obtain ⟨q, v1, pre1, st1, hkq, rfl, HI⟩ := hrel
              rename World => wi
              clear HM2'
              by_cases hlq : q < ts.length
              · obtain ⟨M3, hwe, htk⟩ := HI.out
                obtain ⟨a1, c1, css, ea, -, -, hrow, hkk⟩ := ty.tys_open HRT.out
                simp only [Value.slice.injEq, true_and] at ea
                obtain ⟨ea1, ea2⟩ := ea
                subst ea1 ea2
                obtain ⟨b', o', eb, hSb', hc⟩ := hrow q hlq
                simp only [Option.some.injEq, Addr.mk.injEq, and_true] at eb
                obtain ⟨eb1, eb2⟩ := eb
                subst eb1 eb2
                have hrq := hkk q hlq
                obtain ⟨x0, x1, x2, kids, ak, ck, hT, hcs, f0, f1, f2, fk⟩ := ty.ty_open hrq
                rw [hcs] at hc hrq
                have blk := M3.low b (hSn b hSb')
                have e0 := (World.cell?_of_block (w := w) (a := ⟨b, o + q * 4, none⟩) blk).trans (hc 0 _ rfl)
                have e1 := (World.cell?_of_block (w := w) (a := ⟨b, o + q * 4 + 1, none⟩) blk).trans (hc 1 _ rfl)
                have e2 := (World.cell?_of_block (w := w) (a := ⟨b, o + q * 4 + 2, none⟩) blk).trans (hc 2 _ rfl)
                have e3 := (World.cell?_of_block (w := w) (a := ⟨b, o + q * 4 + 3, none⟩) blk).trans (hc 3 _ rfl)
                obtain ⟨x, hxT, hxe⟩ : ∃ x : TPart w S, x.T = .mk (x0, x1, x2) kids ∧ encTs x = #[.agg #[.int .i64 x0, .int .i64 x1, .string x2, .slice ak kids.length ck]] := ⟨⟨.mk (x0, x1, x2) kids, ak, ck, by rw [hT] at hrq; exact hrq⟩, rfl, rfl⟩
                have HX : Hid (x.T = .mk (x0, x1, x2) kids) := hxT
                have HXt : Hid (x.T ∈ ts) := by show _ ∈ _; rw [hxT, ← hT]; exact List.getElem_mem hlq
                have hdr := withS_drop hlq
                rw [hT] at hdr
                simp only [Rose.kids] at hdr
                have HDR : Hid ((withS (ts.drop q)).length = (withS (ts.drop (q + 1))).length + ((withS x.T.kids).length + 1)) := by show _ = _; rw [hdr, hxT]; simp only [Rose.kids]; omega
                have HTK : Hid (∀ t ∈ ts.take (q + 1), t ∈ (pre1 ++ [x]).map fun y => y.T) := fun t ht => by
                  rw [List.take_succ_eq_append_getElem hlq] at ht
                  rw [List.map_append]
                  rcases List.mem_append.1 ht with h | h
                  · exact List.mem_append.2 (.inl (htk t h))
                  · simp at h
                    refine List.mem_append.2 (.inr ?_)
                    rw [h, hT]
                    simp [hxT]
                have HM3 : Hid (Mid w S n₀ ks J W.heap.size M D wi v1 pre1 st1 m' (some ts) (withS (ts.drop q)).length) := M3
                have HWE : Hid (weigh (st1.map fun e => e.2) + (withS (ts.drop q)).length + 1 = G) := hwe
                have FK : Hid (ty.tySh.slice.rep w S [.slice ak kids.length ck] kids) := fk
                have hzi : W.heap.size + 4 ≤ wi.heap.size := M3.size
                have hJ1 : J pre1 (wi.alloc (.cells #[.int .i64 x0, .int .i64 x1, .string x2, .slice ak kids.length ck] 74)) := HJ.out _ _ _ M3.held ((Below.refl _ _).alloc (by omega) _)
                obtain ⟨fn, tmps, assign, body, hy, hR⟩ := HY.out pre1 x _ hJ1 (by have := M3.cnt; omega)
                rw [hxe] at hy
                clear hJ1 M3 hwe htk hrow hkk hrq hcs hc blk hxT hxe hdr hT fk HI
                gi_wp2
                refine hR.mono ?_
                rintro e W3 (⟨rfl, hJ3, hk3⟩ | ⟨rfl, hJx3, hk3⟩)
                · have ha3 : ∀ k, k < wi.heap.size → (wi.alloc (.cells #[.int .i64 x0, .int .i64 x1, .string x2, .slice ak kids.length ck] 74)).heap[k]? = wi.heap[k]? := fun k hk => Below.heap_alloc _ _ _ hk
                  have hhi : ∀ k, W.heap.size ≤ k → k < wi.heap.size → W3.heap[k]? = wi.heap[k]? := fun k h1 h2 => (hk3.high k h1 (by simp; omega)).trans (ha3 k h2)
                  have hz3 : wi.heap.size + 1 ≤ W3.heap.size := by have := hk3.size; simp at this; omega
                  have m1 := blk_cell (i := 0) ((hhi _ (Nat.le_refl _) (by omega)).trans HM3.out.box) rfl
                  have m2 := blk_free (i := 0) ((hhi _ (Nat.le_refl _) (by omega)).trans HM3.out.box)
                  have B3 : W3.cell? ⟨wi.heap.size, 3, none⟩ = some (.slice ak kids.length ck) := by
                    rw [World.cell?_of_block (w := wi.alloc _) (a := ⟨wi.heap.size, 3, none⟩) (hk3.high wi.heap.size (by omega) (by simp))]
                    simp
                  have HOB : Hid (∀ g, v1.ownBlock = some g → W.heap.size + 4 ≤ g ∧ g ≠ M ∧ g ≠ D) := fun g hg => by
                    rcases HM3.out.row.2 with ⟨rfl, _⟩ | ⟨g', cap, cur, rfl, h, hcur, _⟩
                    · cases hg
                    · simp only [Value.ownBlock, Option.some.injEq] at hg
                      subst hg
                      refine ⟨h, fun e => ?_, fun e => ?_⟩
                      · subst e
                        obtain ⟨es, clock, hes, -⟩ := HM3.out.map
                        rw [hes] at hcur; cases hcur
                      · subst e
                        rw [HM3.out.dfr] at hcur; cases hcur
                  have hst1 : st1.length ≤ 2097152 := by
                    have h1 := length_le_weigh (st1.map fun e => e.2)
                    rw [List.length_map] at h1
                    have := HWE.out
                    have := HG1.out
                    omega
                  have h2a : (W3.alloc (.cells #[.slice ak kids.length ck] 35)).ownsRow (W.heap.size + 4) 35 1 v1 st1.length (st1.map fun e => e.1) := row_on HM3.out.row fun g hg hlt => (Below.heap_alloc _ _ _ (by omega)).trans (hhi g (by omega) hlt)
                  have HK3 : Hid _ := hk3
                  have HJ3 : Hid _ := hJ3
                  have HHI : Hid _ := hhi
                  clear hk3 hJ3 hhi ha3 hR hy e0 e1 e2 e3
                  gi_wp2_with (gi_at_builtin; refine append_oneIn _ rfl _ _ 94 rfl (W.heap.size + 4) 35 ti _ 24 Try.underlying94 TI.out.1 TI.out.2.1 TI.out.2.2.1 TI.out.2.2.2 rfl v1 st1.length _ rfl h2a ⟨W3.heap.size, 0, none⟩ 1 (.slice ak kids.length ck) rfl (cell_one_new _ _ _) rfl (by unfold maxLen; omega) (by omega) (by simp; omega) ?_; intro ua ul uc w4 hown4 hgrow4
                               have hZ : w4.heap[W.heap.size]? = some (.cells #[v1] 94) := (hgrow4.block W.heap.size (by simp; omega) (fun e => by have := (HOB.out _ e.symm).1; omega)).trans ((Below.heap_alloc _ _ _ (by omega)).trans ((HHI.out _ (Nat.le_refl _) (by omega)).trans HM3.out.box))
                               have y0 := blk_cell (i := 0) hZ rfl
                               have y1 := blk_free (i := 0) hZ)
                  have hM4 : Mid w S n₀ ks J W.heap.size M D (w4.setCell ⟨W.heap.size, 0, none⟩ (.slice ua ul uc)) (.slice ua ul uc) (pre1 ++ [x]) (st1 ++ [(.slice ak kids.length ck, x.T.kids)]) m' (some ts) (withS (ts.drop (q + 1))).length := by
                    have hM3 := HM3.out
                    rw [HDR.out] at hM3
                    have hal : Below W3.heap.size W3 (W3.alloc (.cells #[.slice ak kids.length ck] 35)) := (Below.refl _ _).alloc (Nat.le_refl _) _
                    have hmid : ∀ k, k < W3.heap.size → (∀ g, v1.ownBlock = some g → k ≠ g) → k ≠ W.heap.size → (w4.setCell ⟨W.heap.size, 0, none⟩ (.slice ua ul uc)).heap[k]? = W3.heap[k]? := fun k h1 h2 h3 =>
                      (Below.heap_setCell _ _ _ _ (by simpa using h3)).trans ((hgrow4.block k (by simp; omega) (fun e => h2 _ e.symm rfl)).trans (hal.block k h1))
                    refine Mid.push hM3 HXt.out HM2.out ?_ ?_ ?_ (fun b hb => ?_) ?_ ?_ ?_ ?_
                    · simp [World.setCell, Array.getElem?_modify, hZ]
                    · exact row_on hown4 fun g hg hlt => Below.heap_setCell _ _ _ _ (by simp; omega)
                    · refine HJ.out _ _ _ HJ3.out ?_
                      exact ((hal.mono (by omega)).grown hgrow4 (by simp; omega) (fun g hg => by have := (HOB.out _ hg).1; omega)).setCell (p := ⟨W.heap.size, 0, none⟩) (by simp) _
                    · have hbW := HW.out
                      rw [hmid b (by omega) (fun g hg => by have := (HOB.out _ hg).1; omega) (by omega), HK3.out.low b hb]
                      exact Below.heap_alloc _ _ _ (by omega)
                    · rw [World.size_setCell]
                      exact Nat.le_trans (Nat.le_trans (by omega) hal.size) hgrow4.size
                    · have hm := HM3.out.map.lt
                      rw [hmid M (by omega) (fun g hg e => (HOB.out _ hg).2.1 e.symm) (by have := HMz.out; omega)]
                      exact HHI.out M (by have := HMz.out; omega) hm
                    · have hd := (Array.getElem?_eq_some_iff.1 HM3.out.dfr).1
                      rw [hmid D (by omega) (fun g hg e => (HOB.out _ hg).2.2 e.symm) (by have := HDz.out; omega)]
                      exact HHI.out D (by have := HDz.out; omega) hd
                    · rw [HX.out]; exact FK.out
                  have HM4 : Hid _ := hM4
                  have HW4 : Hid (weigh ((st1 ++ [(Value.slice ak kids.length ck, x.T.kids)]).map fun e => e.2) + (withS (ts.drop (q + 1))).length + 1 = G) := by
                    show _ = _
                    have h1 := HWE.out
                    rw [HDR.out] at h1
                    rw [List.map_append, weigh_append]
                    simp [weigh]
                    omega
                  clear hM4
                  gi_roundg (ts.length - (q + 1))
                  case rel => exact ⟨q + 1, _, _, _, by omega, by go_num, HM4.out, HW4.out, HTK.out⟩
                  case measure => omega
                · have hdf : W3.heap[D]? = some (.deferred (some [])) := ((hk3.high D (by have := HDz.out; omega) (by have := (Array.getElem?_eq_some_iff.1 HM3.out.dfr).1; simp; omega)).trans (Below.heap_alloc _ _ _ (Array.getElem?_eq_some_iff.1 HM3.out.dfr).1)).trans HM3.out.dfr
                  have HSUB : Hid (∀ t ∈ (pre1 ++ [x]).map (fun y => y.T), t ∈ typesL ks) := fun t ht => by
                    rw [List.map_append] at ht
                    rcases List.mem_append.1 ht with h | h
                    · exact HM3.out.pend.sub t h
                    · simp at h; subst h; exact HM2.out _ (roots_mem HXt.out)
                  have HDF : Hid _ := hdf
                  have HJX3 : Hid (Jx (pre1 ++ [x]) W3) := hJx3
                  clear hdf hk3 hR hy hJx3
                  gi_wp2
                  refine ⟨by simp, .inl ⟨_, _, rfl, run_takeDeferred HDF.out, ?_⟩⟩
                  exact ⟨_, results_none rfl _ _ _, ⟨_, rfl⟩, .inr ⟨pre1 ++ [x], HSUB.out, HJX.out _ _ _ HJX3.out (put_below _ _ HDF.out (by have := HDz.out; omega))⟩⟩
              · obtain rfl : q = ts.length := by omega
                obtain ⟨M3, hwe, htk⟩ := HI.out
                rw [List.take_length] at htk
                rw [List.drop_length] at hwe
                have HM4 : Hid (Mid w S n₀ ks J W.heap.size M D wi v1 pre1 st1 m' none 0) := M3.skip htk
                have HW4 : Hid (weigh (st1.map fun e => e.2) < G) := by show _ < _; omega
                clear M3 hwe htk HI
                gi_wp2
                gi_roundg (weigh (st1.map fun e => e.2))
                case rel => exact ⟨v1, pre1, st1, m', rfl, by have := HW4.out; have := HG1.out; omega, HM4⟩
                case measure => have := HW4.out; have := HG.out; omega
  case stop =>
    rintro D c pre W' _ _ h _
    exact h.elim

end Go.Proofs.Ytemcncmghnekdaa.data

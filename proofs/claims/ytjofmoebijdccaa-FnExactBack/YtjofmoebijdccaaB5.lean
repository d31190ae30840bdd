/-
  A Ty that came in as an argument lies in memory as its cells.
  A Con that came in as an argument lies in memory as its cells.
  A Data that came in as an argument lies in memory as its cells.
  A Ty that lies in memory apart: its kids' slices are all different blocks.
  A Con that lies in memory apart: its slices are all different blocks.
  A Data that lies in memory apart: its slices are all different blocks.
  The law's copies of a Ty and of slices of it: the same in new memory, all of it apart; nothing that was there is turned.
-/
import Derived.ProofKit
import Derived.OpenShut
import Derived.Laws.MakeOwn
import Derived.Deep.OwnRows
import Derived.Test.YtjofmoebijdccaaB1
import Derived.Test.YtjofmoebijdccaaB2
import Derived.Test.YtjofmoebijdccaaB3
import Derived.Test.YtjofmoebijdccaaB4
namespace Go.Proofs.Ytjofmoebijdccaa.ty
open Go.RowKit Go.ChangeShapes Go.WideShapes Go.Proofs.Ytjofmoebijdccaa.rose Go.Proofs.Ytjofmoebijdccaa
set_option linter.unusedVariables false
set_option maxRecDepth 100000

section
variable {H : Type} {enc : TypeId × Value → H} {w : World} {spare : Nat → Bool} {held : Bool}

theorem cells_ty : Try.prog.cellsOf 144 = 4 := by kernel_rfl

theorem opens2_ty (n : Nat) : OpensAt enc Try.prog w spare held n tySh 144 ∧ OpensAt enc Try.prog w spare held n tySh.slice 121 := by
  refine opens_rose (A := paySh) (s := 121) (t := 144) Try.underlying121 cells_ty ?_ n
  intro n hs fuel cs x hf h
  obtain ⟨xs, m, rfl, -, hl, hlen, hfl⟩ := DataW.trod_struct Try.underlying144 h
  rw [cells_ty] at hl
  have hlen5 : xs.length = 4 := hlen
  match cs, hl with
  | [c0, c1, c2, c3], _ =>
    match xs, hlen5 with
    | [y0, y1, y2, y3], _ =>
      have f0 := hfl 0 _ rfl
      have f1 := hfl 1 _ rfl
      have f2 := hfl 2 _ rfl
      have f3 := hfl 3 _ rfl
      simp only [List.getElem?_cons_zero, List.getElem?_cons_succ] at f0 f1 f2 f3
      obtain ⟨p0, h0⟩ := opens_int (w := w) Try.underlying3 n m _ _ (by omega) f0
      obtain ⟨p1, h1⟩ := opens_int (w := w) Try.underlying3 n m _ _ (by omega) f1
      obtain ⟨p2, h2⟩ := opens_str (w := w) Try.underlying9 n m _ _ (by omega) f2
      obtain ⟨p3, h3⟩ := hs m _ _ (by omega) f3
      exact ⟨.mk (p0, p1, p2) p3, rose_iff.2 ⟨[c0, c1, c2], [c3], rfl, ⟨[c0], _, rfl, h0, [c1], _, rfl, h1, h2⟩, h3⟩⟩
theorem opens_ty (n : Nat) : OpensAt enc Try.prog w spare held n tySh 144 := (opens2_ty n).1
theorem opens_tys (n : Nat) : OpensAt enc Try.prog w spare held n tySh.slice 121 := (opens2_ty n).2

/-- THE ARGUMENT. -/
theorem arg_ty {v : Value} {d : DataW H} {ps : List MemPlace} {r : Reach} {b : Nat} (hval : Value.okWide Try.prog w r b 144 v) (h : DataW.Trod enc Try.prog w 0 spare held 144 v d ps) : ∃ cs T, v = .agg cs.toArray ∧ tySh.rep w (· < w.heap.size) cs T := by
  obtain ⟨cs, rfl, _⟩ := okWide_struct Try.underlying144 hval
  obtain ⟨fuel, hf⟩ := h
  obtain ⟨T, hT⟩ := opens_ty (enc := enc) (w := w) (spare := spare) (held := held) fuel fuel _ _ (Nat.le_refl _) hf
  exact ⟨cs.toList, T, by simp, hT⟩
end

end Go.Proofs.Ytjofmoebijdccaa.ty

namespace Go.Proofs.Ytjofmoebijdccaa.con
open Go.RowKit Go.ChangeShapes Go.WideShapes Go.Proofs.Ytjofmoebijdccaa.rose Go.Proofs.Ytjofmoebijdccaa
set_option linter.unusedVariables false
set_option maxRecDepth 100000

section
variable {H : Type} {enc : TypeId × Value → H} {w : World} {spare : Nat → Bool} {held : Bool}

theorem cells_con : Try.prog.cellsOf 123 = 2 := by kernel_rfl

theorem opens_con (n : Nat) : OpensAt enc Try.prog w spare held n conSh 123 := by
  intro fuel cs x hf h
  obtain ⟨xs, m, rfl, -, hl, hlen, hfl⟩ := DataW.trod_struct Try.underlying123 h
  rw [cells_con] at hl
  have hlen5 : xs.length = 2 := hlen
  match cs, hl with
  | [c0, c1], _ =>
    match xs, hlen5 with
    | [y0, y1], _ =>
      have f0 := hfl 0 _ rfl
      have f1 := hfl 1 _ rfl
      simp only [List.getElem?_cons_zero, List.getElem?_cons_succ] at f0 f1
      obtain ⟨p0, h0⟩ := opens_str (w := w) Try.underlying9 n m _ _ (by omega) f0
      obtain ⟨p1, h1⟩ := ty.opens_tys (w := w) n m _ _ (by omega) f1
      exact ⟨(p0, p1), [c0], _, rfl, h0, h1⟩
theorem opens_cons (n : Nat) : OpensAt enc Try.prog w spare held n conSh.slice 45 := fun fuel cs x hf h => opens_slice (n := n) Try.underlying45 cells_con (by decide) (opens_con n) fuel cs x (by omega) h

/-- THE ARGUMENT. -/
theorem arg_con {v : Value} {d : DataW H} {ps : List MemPlace} {r : Reach} {b : Nat} (hval : Value.okWide Try.prog w r b 123 v) (h : DataW.Trod enc Try.prog w 0 spare held 123 v d ps) : ∃ cs T, v = .agg cs.toArray ∧ conSh.rep w (· < w.heap.size) cs T := by
  obtain ⟨cs, rfl, _⟩ := okWide_struct Try.underlying123 hval
  obtain ⟨fuel, hf⟩ := h
  obtain ⟨T, hT⟩ := opens_con (enc := enc) (w := w) (spare := spare) (held := held) fuel fuel _ _ (Nat.le_refl _) hf
  exact ⟨cs.toList, T, by simp, hT⟩
end

end Go.Proofs.Ytjofmoebijdccaa.con

namespace Go.Proofs.Ytjofmoebijdccaa.data
open Go.RowKit Go.ChangeShapes Go.WideShapes Go.Proofs.Ytjofmoebijdccaa.rose Go.Proofs.Ytjofmoebijdccaa
set_option linter.unusedVariables false
set_option maxRecDepth 100000

section
variable {H : Type} {enc : TypeId × Value → H} {w : World} {spare : Nat → Bool} {held : Bool}

theorem cells_data : Try.prog.cellsOf 47 = 3 := by kernel_rfl

theorem opens_data (n : Nat) : OpensAt enc Try.prog w spare held n dataSh 47 := by
  intro fuel cs x hf h
  obtain ⟨xs, m, rfl, -, hl, hlen, hfl⟩ := DataW.trod_struct Try.underlying47 h
  rw [cells_data] at hl
  have hlen5 : xs.length = 3 := hlen
  match cs, hl with
  | [c0, c1, c2], _ =>
    match xs, hlen5 with
    | [y0, y1, y2], _ =>
      have f0 := hfl 0 _ rfl
      have f1 := hfl 1 _ rfl
      have f2 := hfl 2 _ rfl
      simp only [List.getElem?_cons_zero, List.getElem?_cons_succ] at f0 f1 f2
      obtain ⟨p0, h0⟩ := opens_str (w := w) Try.underlying9 n m _ _ (by omega) f0
      obtain ⟨p1, h1⟩ := opens_int (w := w) Try.underlying3 n m _ _ (by omega) f1
      obtain ⟨p2, h2⟩ := con.opens_cons (w := w) n m _ _ (by omega) f2
      exact ⟨(p0, p1, p2), [c0], _, rfl, h0, [c1], _, rfl, h1, h2⟩
theorem opens_datas (n : Nat) : OpensAt enc Try.prog w spare held n dataSh.slice 22 := fun fuel cs x hf h => opens_slice (n := n) Try.underlying22 cells_data (by decide) (opens_data n) fuel cs x (by omega) h

/-- THE ARGUMENT. -/
theorem arg_data {v : Value} {d : DataW H} {ps : List MemPlace} {r : Reach} {b : Nat} (hval : Value.okWide Try.prog w r b 47 v) (h : DataW.Trod enc Try.prog w 0 spare held 47 v d ps) : ∃ cs T, v = .agg cs.toArray ∧ dataSh.rep w (· < w.heap.size) cs T := by
  obtain ⟨cs, rfl, _⟩ := okWide_struct Try.underlying47 hval
  obtain ⟨fuel, hf⟩ := h
  obtain ⟨T, hT⟩ := opens_data (enc := enc) (w := w) (spare := spare) (held := held) fuel fuel _ _ (Nat.le_refl _) hf
  exact ⟨cs.toList, T, by simp, hT⟩
end

end Go.Proofs.Ytjofmoebijdccaa.data

namespace Go.Proofs.Ytjofmoebijdccaa.ty
open Go.RowKit Go.Proofs.Ytjofmoebijdccaa.rose Go.Proofs.Ytjofmoebijdccaa
set_option linter.unusedVariables false

abbrev tySp : Sh TyD := paySh.srose

theorem typ_rep {w : World} {S : Nat → Prop} {cs : List Value} {T : TyD} (h : tySp.rep w S cs T) : tySh.rep w S cs T := srose_rep (fun h => h) rfl h
theorem typs_rep {w : World} {S : Nat → Prop} {cs : List Value} {ks : List TyD} (h : tySp.sslice.rep w S cs ks) : tySh.slice.rep w S cs ks := sslice_rep (A := tySp) (B := tySh) rfl (fun h => typ_rep h) h

theorem typ_shut {w : World} {S : Nat → Prop} {x0 : Int} {x1 : Int} {x2 : ByteArray} {x3 : List TyD} {a3 : Option Addr} {c3 : Nat} (h0 : -9223372036854775808 ≤ x0 ∧ x0 ≤ 9223372036854775807) (h1 : -9223372036854775808 ≤ x1 ∧ x1 ≤ 9223372036854775807) (h2 : x2.size ≤ maxLen) (h3 : tySp.sslice.rep w S [.slice a3 x3.length c3] x3) : tySp.rep w S [.int .i64 x0, .int .i64 x1, .string x2, .slice a3 x3.length c3] (.mk (x0, x1, x2) x3) :=
  srose_iff.2 ⟨[.int .i64 x0, .int .i64 x1, .string x2], [_], fun _ => False, S, rfl, fun _ h => h.elim, fun _ h => h, fun _ h => h.elim, ⟨[_], _, rfl, ⟨rfl, h0⟩, [_], _, rfl, ⟨rfl, h1⟩, ⟨rfl, h2⟩⟩, h3⟩
theorem typ_shutv {w : World} {S : Nat → Prop} {x0 : Int} {x1 : Int} {x2 : ByteArray} {x3 : List TyD} {v3 : Value} (h0 : -9223372036854775808 ≤ x0 ∧ x0 ≤ 9223372036854775807) (h1 : -9223372036854775808 ≤ x1 ∧ x1 ≤ 9223372036854775807) (h2 : x2.size ≤ maxLen) (h3 : tySp.sslice.rep w S [v3] x3) : tySp.rep w S [.int .i64 x0, .int .i64 x1, .string x2, v3] (.mk (x0, x1, x2) x3) :=
  srose_iff.2 ⟨[.int .i64 x0, .int .i64 x1, .string x2], [_], fun _ => False, S, rfl, fun _ h => h.elim, fun _ h => h, fun _ h => h.elim, ⟨[_], _, rfl, ⟨rfl, h0⟩, [_], _, rfl, ⟨rfl, h1⟩, ⟨rfl, h2⟩⟩, h3⟩
theorem typ_open {w : World} {S : Nat → Prop} {cs : List Value} {T : TyD} (h : tySp.rep w S cs T) : ∃ x0 x1 x2 x3 a3 c3, T = .mk (x0, x1, x2) x3 ∧ cs = [.int .i64 x0, .int .i64 x1, .string x2, .slice a3 x3.length c3] ∧ (-9223372036854775808 ≤ x0 ∧ x0 ≤ 9223372036854775807) ∧ (-9223372036854775808 ≤ x1 ∧ x1 ≤ 9223372036854775807) ∧ x2.size ≤ maxLen ∧ tySp.sslice.rep w S [.slice a3 x3.length c3] x3 := by
  obtain ⟨⟨x0, x1, x2⟩, x3⟩ := T
  obtain ⟨ps, kc, S1, S2, rfl, s1, s2, s3, ⟨_, _, rfl, ⟨rfl, h0⟩, _, _, rfl, ⟨rfl, h1⟩, ⟨rfl, h2⟩⟩, h3⟩ := srose_iff.1 h
  obtain ⟨a3, c3, rfl⟩ := sslice_cells h3
  exact ⟨_, _, _, _, _, _, rfl, rfl, h0, h1, h2, tySp.sslice.mono h3 s2⟩
theorem typs_open {w : World} {S : Nat → Prop} {v : Value} {ks : List TyD} (h : tySp.sslice.rep w S [v] ks) : ∃ a cap css F, v = .slice a ks.length cap ∧ ks.length ≤ cap ∧ cap ≤ maxLen ∧ (a = none → cap = 0) ∧ SRow tySp w S a css F ks := by
  obtain ⟨a, cap, css, F, e, h1, h2, h3, h4⟩ := h
  exact ⟨a, cap, css, F, by simpa using e, h1, h2, h3, h4⟩

end Go.Proofs.Ytjofmoebijdccaa.ty

namespace Go.Proofs.Ytjofmoebijdccaa.con
open Go.RowKit Go.Proofs.Ytjofmoebijdccaa.rose Go.Proofs.Ytjofmoebijdccaa
set_option linter.unusedVariables false

abbrev conSp : Sh ConD := Sh.str.spair ty.tySp.sslice

theorem conp_rep {w : World} {S : Nat → Prop} {cs : List Value} {T : ConD} (h : conSp.rep w S cs T) : conSh.rep w S cs T := (fun h => spair_rep (fun h => h) (fun h => ty.typs_rep h) h) h
theorem conps_rep {w : World} {S : Nat → Prop} {cs : List Value} {ks : List ConD} (h : conSp.sslice.rep w S cs ks) : conSh.slice.rep w S cs ks := sslice_rep (A := conSp) (B := conSh) rfl (fun h => conp_rep h) h

theorem conp_shut {w : World} {S : Nat → Prop} {x0 : ByteArray} {x1 : List ty.TyD} {a1 : Option Addr} {c1 : Nat} (h0 : x0.size ≤ maxLen) (h1 : ty.tySp.sslice.rep w S [.slice a1 x1.length c1] x1) : conSp.rep w S [.string x0, .slice a1 x1.length c1] ((x0, x1)) :=
  ⟨[_], _, (fun _ => False), S, rfl, fun b h => h.elim, fun b h => h, fun b h => h.elim, ⟨rfl, h0⟩, h1⟩
theorem conp_shutv {w : World} {S : Nat → Prop} {x0 : ByteArray} {x1 : List ty.TyD} {v1 : Value} (h0 : x0.size ≤ maxLen) (h1 : ty.tySp.sslice.rep w S [v1] x1) : conSp.rep w S [.string x0, v1] ((x0, x1)) :=
  ⟨[_], _, (fun _ => False), S, rfl, fun b h => h.elim, fun b h => h, fun b h => h.elim, ⟨rfl, h0⟩, h1⟩
theorem conp_open {w : World} {S : Nat → Prop} {cs : List Value} {T : ConD} (h : conSp.rep w S cs T) : ∃ x0 x1 a1 c1, T = (x0, x1) ∧ cs = [.string x0, .slice a1 x1.length c1] ∧ x0.size ≤ maxLen ∧ ty.tySp.sslice.rep w S [.slice a1 x1.length c1] x1 := by
  obtain ⟨x0, x1⟩ := T
  obtain ⟨_, _, A0, B0, rfl, ua0, ub0, ue0, ⟨rfl, h0⟩, h1⟩ := h
  obtain ⟨a1, c1, rfl⟩ := sslice_cells h1
  exact ⟨_, _, _, _, rfl, rfl, h0, ty.tySp.sslice.mono h1 fun b g => ub0 b (g)⟩
theorem conps_open {w : World} {S : Nat → Prop} {v : Value} {ks : List ConD} (h : conSp.sslice.rep w S [v] ks) : ∃ a cap css F, v = .slice a ks.length cap ∧ ks.length ≤ cap ∧ cap ≤ maxLen ∧ (a = none → cap = 0) ∧ SRow conSp w S a css F ks := by
  obtain ⟨a, cap, css, F, e, h1, h2, h3, h4⟩ := h
  exact ⟨a, cap, css, F, by simpa using e, h1, h2, h3, h4⟩

end Go.Proofs.Ytjofmoebijdccaa.con

namespace Go.Proofs.Ytjofmoebijdccaa.data
open Go.RowKit Go.Proofs.Ytjofmoebijdccaa.rose Go.Proofs.Ytjofmoebijdccaa
set_option linter.unusedVariables false

abbrev dataSp : Sh DataD := Sh.str.spair (Sh.int.spair con.conSp.sslice)

theorem datap_rep {w : World} {S : Nat → Prop} {cs : List Value} {T : DataD} (h : dataSp.rep w S cs T) : dataSh.rep w S cs T := (fun h => spair_rep (fun h => h) (fun h => spair_rep (fun h => h) (fun h => con.conps_rep h) h) h) h
theorem dataps_rep {w : World} {S : Nat → Prop} {cs : List Value} {ks : List DataD} (h : dataSp.sslice.rep w S cs ks) : dataSh.slice.rep w S cs ks := sslice_rep (A := dataSp) (B := dataSh) rfl (fun h => datap_rep h) h

theorem datap_shut {w : World} {S : Nat → Prop} {x0 : ByteArray} {x1 : Int} {x2 : List con.ConD} {a2 : Option Addr} {c2 : Nat} (h0 : x0.size ≤ maxLen) (h1 : -9223372036854775808 ≤ x1 ∧ x1 ≤ 9223372036854775807) (h2 : con.conSp.sslice.rep w S [.slice a2 x2.length c2] x2) : dataSp.rep w S [.string x0, .int .i64 x1, .slice a2 x2.length c2] ((x0, x1, x2)) :=
  ⟨[_], _, (fun _ => False), S, rfl, fun b h => h.elim, fun b h => h, fun b h => h.elim, ⟨rfl, h0⟩, [_], _, (fun _ => False), S, rfl, fun b h => h.elim, fun b h => h, fun b h => h.elim, ⟨rfl, h1⟩, h2⟩
theorem datap_shutv {w : World} {S : Nat → Prop} {x0 : ByteArray} {x1 : Int} {x2 : List con.ConD} {v2 : Value} (h0 : x0.size ≤ maxLen) (h1 : -9223372036854775808 ≤ x1 ∧ x1 ≤ 9223372036854775807) (h2 : con.conSp.sslice.rep w S [v2] x2) : dataSp.rep w S [.string x0, .int .i64 x1, v2] ((x0, x1, x2)) :=
  ⟨[_], _, (fun _ => False), S, rfl, fun b h => h.elim, fun b h => h, fun b h => h.elim, ⟨rfl, h0⟩, [_], _, (fun _ => False), S, rfl, fun b h => h.elim, fun b h => h, fun b h => h.elim, ⟨rfl, h1⟩, h2⟩
theorem datap_open {w : World} {S : Nat → Prop} {cs : List Value} {T : DataD} (h : dataSp.rep w S cs T) : ∃ x0 x1 x2 a2 c2, T = (x0, x1, x2) ∧ cs = [.string x0, .int .i64 x1, .slice a2 x2.length c2] ∧ x0.size ≤ maxLen ∧ (-9223372036854775808 ≤ x1 ∧ x1 ≤ 9223372036854775807) ∧ con.conSp.sslice.rep w S [.slice a2 x2.length c2] x2 := by
  obtain ⟨x0, x1, x2⟩ := T
  obtain ⟨_, _, A0, B0, rfl, ua0, ub0, ue0, ⟨rfl, h0⟩, _, _, A1, B1, rfl, ua1, ub1, ue1, ⟨rfl, h1⟩, h2⟩ := h
  obtain ⟨a2, c2, rfl⟩ := sslice_cells h2
  exact ⟨_, _, _, _, _, rfl, rfl, h0, h1, con.conSp.sslice.mono h2 fun b g => ub0 b (ub1 b (g))⟩
theorem dataps_open {w : World} {S : Nat → Prop} {v : Value} {ks : List DataD} (h : dataSp.sslice.rep w S [v] ks) : ∃ a cap css F, v = .slice a ks.length cap ∧ ks.length ≤ cap ∧ cap ≤ maxLen ∧ (a = none → cap = 0) ∧ SRow dataSp w S a css F ks := by
  obtain ⟨a, cap, css, F, e, h1, h2, h3, h4⟩ := h
  exact ⟨a, cap, css, F, by simpa using e, h1, h2, h3, h4⟩

end Go.Proofs.Ytjofmoebijdccaa.data

namespace Go.Proofs.Ytjofmoebijdccaa.ty
open Go.RowKit Go.Proofs.Ytjofmoebijdccaa.rose Go.Proofs.Ytjofmoebijdccaa
set_option linter.unusedVariables false

def ToPSays (T : TyD) : Prop := ∀ cs w, wt T ≤ 1048576 → tySh.rep w (· < w.heap.size) cs T →
  Calls Try.prog 84 #[.agg cs.toArray] w fun e w' => (∃ cs', e = .returned (.agg cs'.toArray) ∧ tySp.rep w' (fun b => w.heap.size ≤ b ∧ b < w'.heap.size) cs' T) ∧ Below w.heap.size w w'

theorem infoP_ty : (Try.prog.info? 135).map (fun i => (i.zero, i.size, i.bytes)) = some (some (.agg #[.int .i64 0, .int .i64 0, .string ⟨#[]⟩, .slice none 0 0]), 4, 56) := by kernel_rfl

theorem makeP_ty (n : Nat) (h : n ≤ 1048576) (w : World) : (Instr.makeSlice 85 (.int .i64 (n : Int)) (.int .i64 (n : Int))).run Try.prog w = .ok (.slice (some ⟨w.heap.size, 0, none⟩) n n)
    (w.alloc (.cells (madeCells #[.int .i64 0, .int .i64 0, .string ⟨#[]⟩, .slice none 0 0] (n * 4)) 135)) := by
  obtain ⟨i, hi, hzz⟩ := Option.map_eq_some_iff.1 infoP_ty
  simp only [Prod.mk.injEq] at hzz
  obtain ⟨hz, hs, hb⟩ := hzz
  have := run_make (P := Try.prog) w 85 135 i _ Try.underlying85 hi hz .i64 .i64 n n (by omega) (by omega) (by rw [hb]; omega) (by omega)
  simpa [hs, Value.cells] using this

set_option maxHeartbeats 1000000 in
theorem toPS_of (ks : List TyD) (ih : ∀ k ∈ ks, ToPSays k) (v : Value) (w : World) (hw : ks.length + wts ks ≤ 1048576) (h : tySh.slice.rep w (· < w.heap.size) [v] ks) :
    Calls Try.prog 77 #[v] w fun e w' => (∃ v', e = .returned v' ∧ tySp.sslice.rep w' (fun b => w.heap.size ≤ b ∧ b < w'.heap.size) [v'] ks) ∧ Below w.heap.size w w' := by
  obtain ⟨a, cap, css, rfl, hcap, hmax, hrow, hk⟩ := tys_open h
  clear h hcap hmax
  have IH : Hid (∀ k ∈ ks, ToPSays k) := ih
  have HR : Hid (RowAt w (· < w.heap.size) 4 a ks.length css ∧ ∀ i (h : i < ks.length), tySh.rep w (· < w.heap.size) (css i) ks[i]) := ⟨hrow, hk⟩
  have HW : Hid (wts ks ≤ 1048576) := by show wts ks ≤ 1048576; omega
  have hn : ks.length ≤ 1048576 := by omega
  clear ih hrow hk hw
  have hmk := makeP_ty ks.length hn
  go_enter Try.func77, Try.ntmps77
  go_wp2
  clear hmk
  generalize hw1 : w.alloc _ = w1
  have F1 : SFilling tySp 135 w1 w.heap.size ks.length 0 ks := by
    subst hw1
    exact SFilling.start
  have B1 : Below w.heap.size w w1 := by subst hw1; exact (Below.refl _ _).alloc (Nat.le_refl _) _
  have Z1 : w.heap.size < w1.heap.size := by subst hw1; simp
  clear hw1
  go_loopw [4] (fun v4 wr => ∃ i : Nat, i ≤ ks.length ∧ v4 = .int .i64 i ∧ Hid (SFilling tySp 135 wr w.heap.size ks.length i ks ∧ Below w.heap.size w wr ∧ w.heap.size < wr.heap.size)) (fun v4 _ => ks.length - (intOf v4).toNat)
  case atStart => exact ⟨0, Nat.zero_le _, rfl, F1, B1, Z1⟩
  case round =>
    obtain ⟨i, hi, rfl, HF⟩ := hrel
    by_cases hlt : i < ks.length
    · obtain ⟨b, o, rfl, hS, hc⟩ := HR.out.1 i hlt
      have hrep := HR.out.2 i hlt
      obtain ⟨v0, v1, v2, v3, hcs, c0, c1, c2, c3⟩ := ty_cells hrep hc
      obtain ⟨F, HB, hZ⟩ := HF.out
      have e0 := (HB.cell (p := ⟨b, o + i * 4, none⟩) hS).trans c0
      have e1 := (HB.cell (p := ⟨b, o + i * 4 + 1, none⟩) hS).trans c1
      have e2 := (HB.cell (p := ⟨b, o + i * 4 + 2, none⟩) hS).trans c2
      have e3 := (HB.cell (p := ⟨b, o + i * 4 + 3, none⟩) hS).trans c3
      rw [hcs] at hrep
      clear c0 c1 c2 c3 hc hcs
      have hR := tySh.mono (tySh.below hrep HB) (S' := (· < wr.heap.size)) (fun b hb => Nat.lt_of_lt_of_le hb HB.size)
      clear hrep
      have hcall := IH.out ks[i] (List.getElem_mem hlt) [v0, v1, v2, v3] wr (by have := wts_take hlt; have := wts_take_le ks (i + 1); have := HW.out; omega) hR
      clear hR F HB hZ
      go_wp2_with fail
      refine hcall.mono ?_
      clear hcall
      rintro e w1 ⟨⟨cs', rfl, hrep'⟩, hb⟩
      obtain ⟨F, HB, hZ⟩ := HF.out
      have hl : cs'.length = 4 := tySp.len hrep'
      have hst := F.store (P := Try.prog) hb hZ hlt hl (tySp.one hrep')
      have F2 : Hid (SFilling tySp 135 (w1.setCells w.heap.size (i * 4) cs') w.heap.size ks.length (i + 1) ks) := F.step hb hZ hlt hlt hrep'
      have B2 : Hid (Below w.heap.size w (w1.setCells w.heap.size (i * 4) cs')) := (HB.trans (hb.mono (Nat.le_of_lt hZ))).trans (setCells_below (Nat.le_refl _) _ _)
      have Z2 : Hid (w.heap.size < (w1.setCells w.heap.size (i * 4) cs').heap.size) := by show _ < _; rw [setCells_size]; exact Nat.lt_of_lt_of_le hZ hb.size
      have hk5 : tySp.k = 4 := rfl
      rw [hk5] at hst
      clear F HB hZ HF hrep' hb hk5
      generalize w1.setCells w.heap.size (i * 4) cs' = w2 at hst F2 B2 Z2
      go_wp2
      go_round
      case rel => exact ⟨i + 1, by omega, by go_num, F2.out, B2.out, Z2.out⟩
      case measure => simp [intOf]; omega
    · obtain rfl : i = ks.length := by omega
      go_wp2
      go_ret
      obtain ⟨F, HB, hZ⟩ := HF.out
      exact ⟨⟨_, rfl, F.done hZ (by unfold maxLen; omega)⟩, HB⟩

set_option maxHeartbeats 1000000 in
theorem toP_any (T : TyD) : ToPSays T := by
  induction T using ind with
  | h x x3 ih =>
    intro cs w hw h
    obtain ⟨x0, x1, x2, x3k, a3, c3, hT, rfl, f0, f1, f2, f3⟩ := ty_open h
    cases hT
    clear h
    have q3 : x3.length + wts x3 ≤ 1048576 := by simp [wt] at hw; omega
    have K3 : ∀ (w' : World), Below w.heap.size w w' → Calls Try.prog 77 #[.slice a3 x3.length c3] w' fun e w'' => (∃ v', e = .returned v' ∧ tySp.sslice.rep w'' (fun b => w'.heap.size ≤ b ∧ b < w''.heap.size) [v'] x3) ∧ Below w'.heap.size w' w'' :=
      fun w' hb => toPS_of x3 ih _ w' q3 (tySh.slice.mono (tySh.slice.below f3 hb) fun b hlt => Nat.lt_of_lt_of_le hlt hb.size)
    clear ih hw f3 q3
    go_enter Try.func84, Try.ntmps84
    go_wp2_with fail
    refine (K3 _ ((((Below.refl _ _).alloc (Nat.le_refl _) _).alloc (by simp) _).alloc (by simp; omega) _)).mono ?_
    clear K3
    rintro e w1 ⟨⟨v', rfl, hrep⟩, hb⟩
    obtain ⟨a3', c3', e'⟩ := sslice_cells hrep
    cases e'
    have hz1 : w.heap.size + 3 ≤ w1.heap.size := by have := hb.size; simp at this; omega
    have hpA1 : w1.heap[w.heap.size]? = some (.cells #[.int .i64 x0, .int .i64 x1, .string x2, .slice a3 x3.length c3] 144) := by
      rw [hb.block _ (by simp; omega), Below.heap_alloc _ _ _ (by simp; omega), Below.heap_alloc _ _ _ (by simp)]
      exact alloc_top _ _
    have hp11 : w1.heap[w.heap.size + 1]? = some (.cells #[.int .i64 0, .int .i64 0, .string ⟨#[]⟩, .slice none 0 0] 135) := by
      rw [hb.block _ (by simp), Below.heap_alloc _ _ _ (by simp)]
      have := alloc_top (w.alloc (.cells #[.int .i64 x0, .int .i64 x1, .string x2, .slice a3 x3.length c3] 144)) (.cells #[.int .i64 0, .int .i64 0, .string ⟨#[]⟩, .slice none 0 0] 135)
      rwa [World.size_alloc] at this
    have hp21 : w1.heap[w.heap.size + 1 + 1]? = some (.cells #[.int .i64 x0, .int .i64 x1, .string x2, .slice none 0 0] 135) := by
      rw [hb.block _ (by simp)]
      have := alloc_top ((w.alloc (.cells #[.int .i64 x0, .int .i64 x1, .string x2, .slice a3 x3.length c3] 144)).alloc (.cells #[.int .i64 0, .int .i64 0, .string ⟨#[]⟩, .slice none 0 0] 135)) (.cells #[.int .i64 x0, .int .i64 x1, .string x2, .slice none 0 0] 135)
      rwa [World.size_alloc, World.size_alloc] at this
    have HB1 : Hid (Below w.heap.size w w1) := ((((Below.refl _ _).alloc (Nat.le_refl _) _).alloc (by simp) _).alloc (by simp; omega) _).trans (hb.mono (by simp; omega))
    have R3_1 : Hid (tySp.sslice.rep w1 (fun b => w.heap.size + 2 < b ∧ b < w1.heap.size) [.slice a3' x3.length c3'] x3) := tySp.sslice.mono hrep fun b hS => ⟨by have := hS.1; simp at this; omega, hS.2⟩
    clear hrep hb
    have cr1_0 : w1.cell? ⟨w.heap.size + 1, 0, none⟩ = some (.int .i64 0) := by simp [World.cell?, hp11]
    have cr1_1 : w1.cell? ⟨w.heap.size + 1, 1, none⟩ = some (.int .i64 0) := by simp [World.cell?, hp11]
    have cr1_2 : w1.cell? ⟨w.heap.size + 1, 2, none⟩ = some (.string ⟨#[]⟩) := by simp [World.cell?, hp11]
    have cr1_3 : w1.cell? ⟨w.heap.size + 1, 3, none⟩ = some (.slice none 0 0) := by simp [World.cell?, hp11]
    have fr1 : ∀ o, w1.frozen? ⟨w.heap.size + 1, o, none⟩ = false := fun o => by simp [World.frozen?, hp11]
    have co1_0 : w1.cell? ⟨w.heap.size + 1 + 1, 0, none⟩ = some (.int .i64 x0) := by simp [World.cell?, hp21]
    have co1_1 : w1.cell? ⟨w.heap.size + 1 + 1, 1, none⟩ = some (.int .i64 x1) := by simp [World.cell?, hp21]
    have co1_2 : w1.cell? ⟨w.heap.size + 1 + 1, 2, none⟩ = some (.string x2) := by simp [World.cell?, hp21]
    have co1_3 : w1.cell? ⟨w.heap.size + 1 + 1, 3, none⟩ = some (.slice none 0 0) := by simp [World.cell?, hp21]
    have fo1 : ∀ o, w1.frozen? ⟨w.heap.size + 1 + 1, o, none⟩ = false := fun o => by simp [World.frozen?, hp21]
    clear hpA1 hp11 hp21
    go_wp2
    refine bodyPost_ret (v := .agg #[.int .i64 x0, .int .i64 x1, .string x2, .slice a3' x3.length c3']) (by simp [results, Try.f84, go_sem, cr1_0, cr1_1, cr1_2, cr1_3]) rfl ?_
    refine ⟨⟨[.int .i64 x0, .int .i64 x1, .string x2, .slice a3' x3.length c3'], by rfl, typ_shut f0 f1 f2 (tySp.sslice.mono (tySp.sslice.on R3_1.out fun b hS => by repeat rw [Below.heap_setCell _ _ _ _ (by simp; omega)]) fun b hS => ⟨by omega, by simp [World.setCell]; exact hS.2⟩)⟩, ?_⟩
    repeat first | exact HB1.out | (refine Below.setCell ?_ (by first | (simp; done) | (simp; omega)) _)

theorem toPS_any (ks : List TyD) (v : Value) (w : World) (hw : ks.length + wts ks ≤ 1048576) (h : tySh.slice.rep w (· < w.heap.size) [v] ks) :
    Calls Try.prog 77 #[v] w fun e w' => (∃ v', e = .returned v' ∧ tySp.sslice.rep w' (fun b => w.heap.size ≤ b ∧ b < w'.heap.size) [v'] ks) ∧ Below w.heap.size w w' := toPS_of ks (fun k _ => toP_any k) v w hw h

end Go.Proofs.Ytjofmoebijdccaa.ty

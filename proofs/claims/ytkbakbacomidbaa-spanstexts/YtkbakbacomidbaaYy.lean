/- What the laws' proofs have in common at the margin of the program: rows of parts and of tokens that came in. -/
import Derived.Test.YtkbakbacomidbaaYx
import Derived.Test.YtkbakbacomidbaaRows
import Derived.ProofKit
import Derived.OpenShut
import Derived.ShutString
import Derived.ChangeOld
import Derived.ChangeMaps
import Derived.Lib.SmallJoins
import Derived.ChangeSame
import Derived.SizedLaws
namespace Go.Proofs.Ytkbakbacomidbaa.Sp
open Go.ChangeShapes Go.WideShapes Go.ChangeAt Go.RowKit Go.Joins
theorem own : ownKnob Try.prog.godebug = none := by kernel_rfl
theorem laidOut : laidOutB Try.prog = true := by kernel_rfl
theorem cells42 : Try.prog.cellsOf 42 = 3 := by kernel_rfl
theorem cells36 : Try.prog.cellsOf 36 = 2 := by kernel_rfl
theorem cells39 : Try.prog.cellsOf 39 = 8 := by kernel_rfl
theorem cells37 : Try.prog.cellsOf 37 = 1 := by kernel_rfl
theorem cells9 : Try.prog.cellsOf 9 = 1 := by kernel_rfl
theorem cells3 : Try.prog.cellsOf 3 = 1 := by kernel_rfl
theorem cells4 : Try.prog.cellsOf 4 = 1 := by kernel_rfl
set_option maxRecDepth 20000 in
theorem pc_cells {H : Type} {enc : TypeId × Value → H} {W : World} {n : Nat} {cs : List Value} {x : DataW H × List MemPlace} (h : DataW.trod enc Try.prog W 0 (fun _ => true) true n 42 cs = some x) :
    ∃ r : Pc, cs = [.int .i64 r.f, .int .i64 r.t, .int .i64 r.c] := by
  obtain ⟨y0, y1, m, hx, hl, h0, h1⟩ := trod_struct2 Try.underlying42 h
  rw [cells42] at hl
  obtain ⟨c0, c1, c2, rfl⟩ : ∃ c0 c1 c2, cs = [c0, c1, c2] := by
    match cs, hl with
    | [c0, c1, c2], _ => exact ⟨c0, c1, c2, rfl⟩
  simp only [cells36, cells3] at h0 h1
  simp only [List.drop_zero, List.drop_succ_cons, List.take_succ_cons, List.take_zero] at h0 h1
  obtain ⟨z0, z1, m2, hz, hl6, q0, q1⟩ := trod_struct2 Try.underlying36 h0
  simp only [cells3] at q0 q1
  simp only [List.drop_zero, List.drop_succ_cons, List.take_succ_cons, List.take_zero] at q0 q1
  obtain ⟨f, e0, _, _⟩ := DataW.trod_int Try.underlying3 q0
  obtain ⟨t, e1, _, _⟩ := DataW.trod_int Try.underlying3 q1
  obtain ⟨c, e2, _, _⟩ := DataW.trod_int Try.underlying3 h1
  simp only [List.cons.injEq, and_true] at e0 e1 e2
  subst e0 e1 e2
  exact ⟨⟨f, t, c⟩, rfl⟩
theorem open_parts {H : Type} {enc : TypeId × Value → H} {W : World} {n : Nat} {lo : Option Addr} {len cap : Nat} {x : DataW H × List MemPlace} (h : DataW.trod enc Try.prog W 0 (fun _ => true) true n 24 [.slice lo len cap] = some x) :
    ∃ L : List Pc, L.length = len ∧ PcRow W lo L ∧ len ≤ 9223372036854775807 := by
  have hmaxl : maxLen = 9223372036854775807 := by unfold maxLen; omega
  rcases Go.Deep.open_slice Try.underlying24 h with ⟨h0, hx0⟩ | ⟨a, len', cap', m, k, D, Pl, hcs, _, hl, hm, hmm, hxe, hx⟩
  · simp only [List.cons.injEq, and_true, Value.slice.injEq] at h0
    obtain ⟨rfl, rfl, rfl⟩ := h0
    exact ⟨[], rfl, PcRow.nil _ _, by omega⟩
  · simp only [List.cons.injEq, and_true, Value.slice.injEq] at hcs
    obtain ⟨rfl, rfl, rfl⟩ := hcs
    have each : ∀ i, i < len → ∃ r : Pc, W.cell? (a.add (i * 3)) = some (.int .i64 r.f) ∧ W.cell? (a.add (i * 3 + 1)) = some (.int .i64 r.t) ∧ W.cell? (a.add (i * 3 + 2)) = some (.int .i64 r.c) := by
      intro i hi
      obtain ⟨cs', h1, h2⟩ := hx i (by rw [if_pos rfl] at hmm; omega)
      rw [cells42] at h1
      obtain ⟨_, hlen, hcell⟩ := World.cells?_some h1
      obtain ⟨d, rfl⟩ := pc_cells h2
      refine ⟨d, ?_, ?_, ?_⟩
      · have := hcell 0 (by omega); rw [Go.Deep.add_add] at this; simpa using this
      · have := hcell 1 (by omega); rw [Go.Deep.add_add] at this; simpa using this
      · have := hcell 2 (by omega); rw [Go.Deep.add_add] at this; simpa using this
    obtain ⟨f, hf⟩ : ∃ f : Nat → Pc, ∀ i, i < len → W.cell? (a.add (i * 3)) = some (.int .i64 (f i).f) ∧ W.cell? (a.add (i * 3 + 1)) = some (.int .i64 (f i).t) ∧ W.cell? (a.add (i * 3 + 2)) = some (.int .i64 (f i).c) := by
      haveI : Inhabited Pc := ⟨⟨0, 0, 0⟩⟩
      exact Go.Deep.choose_lt each
    refine ⟨(List.range len).map f, by simp, fun i x hx => ?_, by omega⟩
    have hi : i < len := by have := (List.getElem?_eq_some_iff.1 hx).1; simpa using this
    have hfi : f i = x := by
      rw [List.getElem?_map, List.getElem?_range hi] at hx
      simpa using hx
    obtain ⟨g0, g1, g2⟩ := hf i hi
    obtain ⟨b, off, spot⟩ := a
    have hspot : spot = none := by
      have := World.cell?_spot (hf 0 (by omega)).1
      simpa [Addr.add] using this
    subst hspot
    rw [Addr.add_lit] at g0 g1 g2
    rw [hfi] at g0 g1 g2
    exact ⟨b, off, rfl, World.block_lt_of_cell? W _ g0, g0, by rw [Nat.add_assoc]; exact g1, by rw [Nat.add_assoc]; exact g2⟩
theorem trod_struct7 {P : Program} {H : Type} {enc : TypeId × Value → H} {w : World} {base : Nat} {spare : Nat → Bool} {held : Bool} {t : TypeId} {f0 f1 f2 f3 f4 f5 f6 : Field} {fuel : Nat} {cs : List Value} {x : DataW H × List MemPlace} (ht : P.underlying t = some (.struct #[f0, f1, f2, f3, f4, f5, f6])) (h : DataW.trod enc P w base spare held fuel t cs = some x) :
    ∃ y0 y1 y2 y3 y4 y5 y6 n, cs.length = P.cellsOf t ∧ DataW.trod enc P w base spare held n f0.type ((cs.drop f0.offset).take (P.cellsOf f0.type)) = some y0 ∧
      DataW.trod enc P w base spare held n f1.type ((cs.drop f1.offset).take (P.cellsOf f1.type)) = some y1 ∧ DataW.trod enc P w base spare held n f2.type ((cs.drop f2.offset).take (P.cellsOf f2.type)) = some y2 ∧
      DataW.trod enc P w base spare held n f3.type ((cs.drop f3.offset).take (P.cellsOf f3.type)) = some y3 ∧ DataW.trod enc P w base spare held n f4.type ((cs.drop f4.offset).take (P.cellsOf f4.type)) = some y4 ∧
      DataW.trod enc P w base spare held n f5.type ((cs.drop f5.offset).take (P.cellsOf f5.type)) = some y5 ∧ DataW.trod enc P w base spare held n f6.type ((cs.drop f6.offset).take (P.cellsOf f6.type)) = some y6 := by
  obtain ⟨xs, n, _, rfl, hl, hlen, hf⟩ := DataW.trod_struct ht h
  match xs, hlen with
  | [y0, y1, y2, y3, y4, y5, y6], _ => exact ⟨y0, y1, y2, y3, y4, y5, y6, n, hl, by simpa using hf 0 f0 rfl, by simpa using hf 1 f1 rfl, by simpa using hf 2 f2 rfl, by simpa using hf 3 f3 rfl, by simpa using hf 4 f4 rfl, by simpa using hf 5 f5 rfl, by simpa using hf 6 f6 rfl⟩
set_option maxRecDepth 20000 in
theorem tok_cells {H : Type} {enc : TypeId × Value → H} {W : World} {n : Nat} {cs : List Value} {x : DataW H × List MemPlace} (h : DataW.trod enc Try.prog W 0 (fun _ => true) true n 39 cs = some x) :
    ∃ T : G9.Tk, cs = T.arr.toList := by
  obtain ⟨y0, y1, y2, y3, y4, y5, y6, m, hl, h0, h1, h2, h3, h4, h5, h6⟩ := trod_struct7 Try.underlying39 h
  rw [cells39] at hl
  obtain ⟨c0, c1, c2, c3, c4, c5, c6, c7, rfl⟩ : ∃ c0 c1 c2 c3 c4 c5 c6 c7, cs = [c0, c1, c2, c3, c4, c5, c6, c7] := by
    match cs, hl with
    | [c0, c1, c2, c3, c4, c5, c6, c7], _ => exact ⟨c0, c1, c2, c3, c4, c5, c6, c7, rfl⟩
  simp only [cells3, cells9, cells37, cells4, cells36] at h0 h1 h2 h3 h4 h5 h6
  simp only [List.drop_zero, List.drop_succ_cons, List.take_succ_cons, List.take_zero] at h0 h1 h2 h3 h4 h5 h6
  obtain ⟨k, e0, _, _⟩ := DataW.trod_int Try.underlying3 h0
  obtain ⟨r, e1, _, _⟩ := DataW.trod_int Try.underlying3 h1
  obtain ⟨nm, e2, _, _⟩ := DataW.trod_string Try.underlying9 h2
  obtain ⟨tx, e3, _, _⟩ := DataW.trod_string Try.underlying9 h3
  obtain ⟨ao, n', cap, e4⟩ : ∃ ao n' cap, c4 = .slice ao n' cap := by
    rcases Go.Deep.open_slice Try.underlying37 h4 with ⟨h0, _⟩ | ⟨a, len', cap', m, k, D, Pl, hcs, _⟩
    · simp only [List.cons.injEq, and_true] at h0
      exact ⟨_, _, _, h0⟩
    · simp only [List.cons.injEq, and_true] at hcs
      exact ⟨_, _, _, hcs⟩
  obtain ⟨s, e5, _⟩ := DataW.trod_bool Try.underlying4 h5
  obtain ⟨z0, z1, m2, hz, hl6, q0, q1⟩ := trod_struct2 Try.underlying36 h6
  simp only [cells3] at q0 q1
  simp only [List.drop_zero, List.drop_succ_cons, List.take_succ_cons, List.take_zero] at q0 q1
  obtain ⟨f, e6, _, _⟩ := DataW.trod_int Try.underlying3 q0
  obtain ⟨t, e7, _, _⟩ := DataW.trod_int Try.underlying3 q1
  simp only [List.cons.injEq, and_true] at e0 e1 e2 e3 e5 e6 e7
  subst e0 e1 e2 e3 e4 e5 e6 e7
  exact ⟨⟨k, r, nm, tx, ao, n', cap, s, f, t⟩, rfl⟩
theorem open_toks {H : Type} {enc : TypeId × Value → H} {W : World} {n : Nat} {lo : Option Addr} {len cap : Nat} {x : DataW H × List MemPlace} (h : DataW.trod enc Try.prog W 0 (fun _ => true) true n 22 [.slice lo len cap] = some x) :
    ∃ A : List G9.Tk, A.length = len ∧ TkC W lo A ∧ len ≤ 9223372036854775807 := by
  have hmaxl : maxLen = 9223372036854775807 := by unfold maxLen; omega
  rcases Go.Deep.open_slice Try.underlying22 h with ⟨h0, hx0⟩ | ⟨a, len', cap', m, k, D, Pl, hcs, _, hl, hm, hmm, hxe, hx⟩
  · simp only [List.cons.injEq, and_true, Value.slice.injEq] at h0
    obtain ⟨rfl, rfl, rfl⟩ := h0
    exact ⟨[], rfl, fun i x hx => by simp at hx, by omega⟩
  · simp only [List.cons.injEq, and_true, Value.slice.injEq] at hcs
    obtain ⟨rfl, rfl, rfl⟩ := hcs
    have each : ∀ i, i < len → ∃ r : G9.Tk, ∀ j u, r.arr[j]? = some u → W.cell? (a.add (i * 8 + j)) = some u := by
      intro i hi
      obtain ⟨cs', h1, h2⟩ := hx i (by rw [if_pos rfl] at hmm; omega)
      rw [cells39] at h1
      obtain ⟨_, hlen, hcell⟩ := World.cells?_some h1
      obtain ⟨d, rfl⟩ := tok_cells h2
      refine ⟨d, fun j u hj => ?_⟩
      have hj8 : j < 8 := (Array.getElem?_eq_some_iff.1 hj).1
      have := hcell j (by omega)
      rw [Go.Deep.add_add] at this
      rw [this]
      rw [← Array.getElem?_toList] at hj
      exact hj
    obtain ⟨f, hf⟩ : ∃ f : Nat → G9.Tk, ∀ i, i < len → ∀ j u, (f i).arr[j]? = some u → W.cell? (a.add (i * 8 + j)) = some u := by
      haveI : Inhabited G9.Tk := ⟨⟨0, 0, ⟨#[]⟩, ⟨#[]⟩, none, 0, 0, false, 0, 0⟩⟩
      exact Go.Deep.choose_lt each
    refine ⟨(List.range len).map f, by simp, fun i x hx => ?_, by omega⟩
    have hi : i < len := by have := (List.getElem?_eq_some_iff.1 hx).1; simpa using this
    have hfi : f i = x := by
      rw [List.getElem?_map, List.getElem?_range hi] at hx
      simpa using hx
    have hg := hf i hi
    obtain ⟨b, off, spot⟩ := a
    have hspot : spot = none := by
      have := World.cell?_spot (hf 0 (by omega) 0 _ rfl)
      simpa [Addr.add] using this
    subst hspot
    rw [hfi] at hg
    refine ⟨b, off, rfl, ?_, fun j u hj => ?_⟩
    · have := hg 0 _ rfl
      rw [Addr.add_lit] at this
      exact World.block_lt_of_cell? W _ this
    · have := hg j u hj
      rw [Addr.add_lit] at this
      rw [Nat.add_assoc]
      exact this
end Go.Proofs.Ytkbakbacomidbaa.Sp

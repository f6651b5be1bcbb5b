/- A row of names that came in. -/
import Derived.Test.YtfkhpcgccjlpgaaRr
import Derived.ProofKit
import Derived.OpenShut
import Derived.ShutString
import Derived.ChangeOld
import Derived.ChangeMaps
import Derived.Lib.SmallJoins
import Derived.ChangeSame
namespace Go.Proofs.Ytfkhpcgccjlpgaa
open Go.ChangeShapes Go.WideShapes Go.ChangeAt Go.RowKit Go.Joins

theorem cells36 : Try.prog.cellsOf 36 = 2 := by kernel_rfl

theorem ref_cells {H : Type} {enc : TypeId × Value → H} {W : World} {n : Nat} {cs : List Value} {x : DataW H × List MemPlace} (h : DataW.trod enc Try.prog W 0 (fun _ => true) true n 36 cs = some x) :
    ∃ r : Rf, cs = [.string r.n, .int .i64 r.r] := by
  obtain ⟨y0, y1, m, _, hl, h0, h1⟩ := trod_struct2 Try.underlying36 h
  rw [cells36] at hl
  obtain ⟨c0, c1, rfl⟩ : ∃ c0 c1, cs = [c0, c1] := by
    match cs, hl with
    | [c0, c1], _ => exact ⟨c0, c1, rfl⟩
  have k3 : Try.prog.cellsOf 3 = 1 := by kernel_rfl
  have k9 : Try.prog.cellsOf 9 = 1 := by kernel_rfl
  simp only [k3, k9] at h0 h1
  obtain ⟨s, e0, _, _⟩ := DataW.trod_string Try.underlying9 h0
  obtain ⟨a, e1, _, _⟩ := DataW.trod_int Try.underlying3 h1
  simp at e0 e1
  subst e0 e1
  exact ⟨⟨s, a⟩, rfl⟩

theorem open_refs {H : Type} {enc : TypeId × Value → H} {W : World} {n : Nat} {lo : Option Addr} {len cap : Nat} {x : DataW H × List MemPlace} (h : DataW.trod enc Try.prog W 0 (fun _ => true) true n 22 [.slice lo len cap] = some x) :
    ∃ L : List Rf, L.length = len ∧ RefRow W lo L := by
  rcases Go.Deep.open_slice Try.underlying22 h with ⟨h0, _⟩ | ⟨a, len', cap', m, k, D, Pl, hcs, _, hl, hm, hmm, _, hx⟩
  · simp only [List.cons.injEq, Value.slice.injEq, and_true] at h0
    obtain ⟨_, rfl, rfl⟩ := h0
    exact ⟨[], rfl, fun i x hi => by simp at hi⟩
  · simp only [List.cons.injEq, Value.slice.injEq, and_true] at hcs
    obtain ⟨rfl, rfl, rfl⟩ := hcs
    rw [if_pos rfl] at hmm
    have each : ∀ i, i < len → ∃ r : Rf, W.cell? (a.add (i * 2)) = some (.string r.n) ∧ W.cell? (a.add (i * 2 + 1)) = some (.int .i64 r.r) := by
      intro i hi
      obtain ⟨cs', h1, h2⟩ := hx i (by omega)
      rw [cells36] at h1
      obtain ⟨_, hlen, hcell⟩ := World.cells?_some h1
      obtain ⟨d, rfl⟩ := ref_cells h2
      refine ⟨d, ?_, ?_⟩
      · have := hcell 0 (by omega); rw [Go.Deep.add_add] at this; simpa using this
      · have := hcell 1 (by omega); rw [Go.Deep.add_add] at this; simpa using this
    obtain ⟨f, hf⟩ : ∃ f : Nat → Rf, ∀ i, i < len → W.cell? (a.add (i * 2)) = some (.string (f i).n) ∧ W.cell? (a.add (i * 2 + 1)) = some (.int .i64 (f i).r) := by
      haveI : Inhabited Rf := ⟨⟨⟨#[]⟩, 0⟩⟩
      exact Go.Deep.choose_lt each
    refine ⟨(List.range len).map f, by simp, fun i x hx => ?_⟩
    have hi : i < len := by have := (List.getElem?_eq_some_iff.1 hx).1; simpa using this
    have hxe : f i = x := by
      rw [List.getElem?_map, List.getElem?_range hi] at hx
      simpa using hx
    obtain ⟨g0, g1⟩ := hf i hi
    obtain ⟨b, off, spot⟩ := a
    have hspot : spot = none := by
      have := World.cell?_spot (hf 0 (by omega)).1
      simpa [Addr.add] using this
    subst hspot
    rw [Addr.add_lit] at g0 g1
    rw [hxe] at g0 g1
    exact ⟨b, off, rfl, World.block_lt_of_cell? W _ g0, g0, by rw [Nat.add_assoc]; exact g1⟩
end Go.Proofs.Ytfkhpcgccjlpgaa

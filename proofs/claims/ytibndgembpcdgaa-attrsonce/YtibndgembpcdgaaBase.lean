/- What the laws' proofs have in common at the margin of the program: rows of attributes and attributes that came in. -/
import Derived.Test.YtibndgembpcdgaaAwake
import Derived.Test.YtibndgembpcdgaaRows
import Derived.ProofKit
import Derived.OpenShut
import Derived.ShutString
import Derived.ChangeOld
import Derived.ChangeMaps
import Derived.Lib.SmallJoins
import Derived.ChangeSame
import Derived.SizedLaws
namespace Go.Proofs.Ytibndgembpcdgaa
open Go.ChangeShapes Go.WideShapes Go.ChangeAt Go.RowKit Go.Joins

theorem own : ownKnob Try.prog.godebug = none := by kernel_rfl
theorem cells24 : Try.prog.cellsOf 24 = 2 := by kernel_rfl
theorem bytes24 : Try.prog.bytesOf 24 = 32 := by kernel_rfl

theorem at_cells {H : Type} {enc : TypeId × Value → H} {W : World} {n : Nat} {cs : List Value} {x : DataW H × List MemPlace} (h : DataW.trod enc Try.prog W 0 (fun _ => true) true n 24 cs = some x) :
    ∃ r : At, cs = [.string r.n, .string r.v] ∧ r.n.size ≤ maxLen ∧ r.v.size ≤ maxLen := by
  obtain ⟨y0, y1, m, _, hl, h0, h1⟩ := trod_struct2 Try.underlying24 h
  rw [cells24] at hl
  obtain ⟨c0, c1, rfl⟩ : ∃ c0 c1, cs = [c0, c1] := by
    match cs, hl with
    | [c0, c1], _ => exact ⟨c0, c1, rfl⟩
  have k9 : Try.prog.cellsOf 9 = 1 := by kernel_rfl
  simp only [k9] at h0 h1
  obtain ⟨s, e0, _, s0⟩ := DataW.trod_string Try.underlying9 h0
  obtain ⟨a, e1, _, s1⟩ := DataW.trod_string Try.underlying9 h1
  simp at e0 e1
  subst e0 e1
  exact ⟨⟨s, a⟩, rfl, s0, s1⟩

/-- What a row of attributes that came in is. -/
structure Came (W : World) (lo : Option Addr) (len cap : Nat) (L : List At) : Prop where
  hlen : L.length = len
  row : AtRow W lo L
  fine : Fine L
  hcap : len ≤ cap
  hmax : cap ≤ maxLen

theorem open_attrs {H : Type} {enc : TypeId × Value → H} {W : World} {n : Nat} {lo : Option Addr} {len cap : Nat} {x : DataW H × List MemPlace} (h : DataW.trod enc Try.prog W 0 (fun _ => true) true n 22 [.slice lo len cap] = some x) :
    ∃ L : List At, Came W lo len cap L ∧ (len = 0 ∨ ∃ es sp, x.1 = .slice es sp ∧ es.length = len) := by
  rcases Go.Deep.open_slice Try.underlying22 h with ⟨h0, _⟩ | ⟨a, len', cap', m, k, D, Pl, hcs, _, hl, hm, hmm, hxe, hx⟩
  · simp only [List.cons.injEq, Value.slice.injEq, and_true] at h0
    obtain ⟨_, rfl, rfl⟩ := h0
    exact ⟨[], ⟨rfl, AtRow.nil _ _, fun x hx => by simp at hx, Nat.le_refl _, Nat.zero_le _⟩, .inl rfl⟩
  · simp only [List.cons.injEq, Value.slice.injEq, and_true] at hcs
    obtain ⟨rfl, rfl, rfl⟩ := hcs
    rw [if_pos rfl] at hmm
    have each : ∀ i, i < len → ∃ r : At, (W.cell? (a.add (i * 2)) = some (.string r.n) ∧ W.cell? (a.add (i * 2 + 1)) = some (.string r.v)) ∧ r.n.size ≤ maxLen ∧ r.v.size ≤ maxLen := by
      intro i hi
      obtain ⟨cs', h1, h2⟩ := hx i (by omega)
      rw [cells24] at h1
      obtain ⟨_, hlen, hcell⟩ := World.cells?_some h1
      obtain ⟨d, rfl, z1, z2⟩ := at_cells h2
      refine ⟨d, ⟨?_, ?_⟩, z1, z2⟩
      · have := hcell 0 (by omega); rw [Go.Deep.add_add] at this; simpa using this
      · have := hcell 1 (by omega); rw [Go.Deep.add_add] at this; simpa using this
    obtain ⟨f, hf⟩ : ∃ f : Nat → At, ∀ i, i < len → (W.cell? (a.add (i * 2)) = some (.string (f i).n) ∧ W.cell? (a.add (i * 2 + 1)) = some (.string (f i).v)) ∧ (f i).n.size ≤ maxLen ∧ (f i).v.size ≤ maxLen := by
      haveI : Inhabited At := ⟨⟨⟨#[]⟩, ⟨#[]⟩⟩⟩
      exact Go.Deep.choose_lt each
    refine ⟨(List.range len).map f, ⟨by simp, fun i x hx => ?_, fun x hx => ?_, hl, hm⟩, .inr ⟨_, _, by rw [hxe], by simp⟩⟩
    · have hi : i < len := by have := (List.getElem?_eq_some_iff.1 hx).1; simpa using this
      have hfi : f i = x := by
        rw [List.getElem?_map, List.getElem?_range hi] at hx
        simpa using hx
      obtain ⟨⟨g0, g1⟩, _⟩ := hf i hi
      obtain ⟨b, off, spot⟩ := a
      have hspot : spot = none := by
        have := World.cell?_spot (hf 0 (by omega)).1.1
        simpa [Addr.add] using this
      subst hspot
      rw [Addr.add_lit] at g0 g1
      rw [hfi] at g0 g1
      exact ⟨b, off, rfl, World.block_lt_of_cell? W _ g0, g0, by rw [Nat.add_assoc]; exact g1⟩
    · obtain ⟨i, hi, rfl⟩ := List.mem_map.1 hx
      exact (hf i (by simpa using hi)).2

/-- A row that came in is no longer than the form's reach. -/
theorem came_bound {H : Type} {ts : List TypeId} {ds : List (DataW H)} (hz : (DataW.weightsEach Try.prog ts ds).all (· ≤ reachBytes) = true) {j len : Nat} {d : DataW H}
    (ht : ts[j]? = some 22) (hd : ds[j]? = some d) (h : len = 0 ∨ ∃ es sp, d = .slice es sp ∧ es.length = len) : len ≤ 1000000000000000 := by
  rcases h with rfl | ⟨es, sp, rfl, rfl⟩
  · omega
  · have h1 := sized_slice hz ht hd Try.underlying22
    rw [bytes24] at h1
    have h5 : reachBytes = 140737488351232 := by decide
    omega
end Go.Proofs.Ytibndgembpcdgaa

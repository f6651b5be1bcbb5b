/- maps.Clone of the names' set. -/
import Derived.Test.YtjjfalbngcbfaaaGreatDoorYd
import Derived.Shelf.SlMaps.Clone
namespace Go.Proofs.YtjjfalbngcbfaaaGreatDoor
open Go.RowKit Go.Maps

set_option maxHeartbeats 2000000 in
set_option maxRecDepth 20000 in
theorem mapClone_some (b : Nat) (es : Array MapEntry) (clock : Nat) (w : World) (hb : w.heap[b]? = some (.map es clock)) :
    Calls Tryz.prog 57 #[.map (some b)] w fun e w' => e = .returned (.map (some w.heap.size)) ∧ w' = w.alloc (.map es clock) := by
  have hq := fun w => run_eql_map_nil_sl (P := Tryz.prog) w 68 _ _ (some b) Tryz.underlying68
  go_enter Tryz.func57, Tryz.ntmps57
  go_wp2_with fail
  rw [run_callFunc_extern Tryz.func87 (by kernel_rfl) (by kernel_rfl) (by kernel_rfl) (e := Extern.MapsClone.clone) (by kernel_rfl), run_maps_clone_sl w 68 hb]
  simp only [Result.andThen]
  rw [Oper.upon_value]
  go_wp2
  rw [run_typeAssert_map_sl _ 68 20 _ _ _ Tryz.underlying68]
  simp only [Result.andThen]
  rw [Oper.upon_value]
  go_wp2
  go_ret
  exact ⟨rfl, rfl⟩
set_option maxHeartbeats 2000000 in
set_option maxRecDepth 20000 in
theorem mapClone_nil (w : World) : Calls Tryz.prog 57 #[.map none] w fun e w' => e = .returned (.map none) ∧ w' = w := by
  have hq := fun w => run_eql_map_nil_sl (P := Tryz.prog) w 68 _ _ none Tryz.underlying68
  go_enter Tryz.func57, Tryz.ntmps57
  go_wp2
  go_ret
  exact ⟨rfl, rfl⟩
/-- The set of the names, laid anew. -/
def MapCl (L : List At) (w : World) (e : Ending) (w' : World) : Prop := ∃ mv, e = .returned (.map mv) ∧ Names (fun k => k < w.heap.size) w' L (.map mv) ∧ Below w.heap.size w w'
theorem mapClone_any {S : Nat → Prop} {w : World} {L : List At} {v : Value} (h : Names S w L v) : Calls Tryz.prog 57 #[v] w (MapCl L w) := by
  obtain ⟨h0, h⟩ := h
  rcases h with ⟨h1, rfl⟩ | ⟨h1, b, rfl, _, D, ⟨es, clock, hb, rest⟩, h2⟩
  · refine (mapClone_nil w).mono ?_
    rintro e w' ⟨rfl, rfl⟩
    exact ⟨none, rfl, ⟨h0, .inl ⟨h1, rfl⟩⟩, Below.refl _ _⟩
  · refine (mapClone_some b es clock w hb).mono ?_
    rintro e w' ⟨rfl, rfl⟩
    exact ⟨some w.heap.size, rfl, ⟨h0, .inr ⟨h1, w.heap.size, rfl, by simp, D, ⟨es, clock, heap_alloc_new _ _, rest⟩, h2⟩⟩, (Below.refl _ w).alloc (Nat.le_refl _) _⟩
end Go.Proofs.YtjjfalbngcbfaaaGreatDoor

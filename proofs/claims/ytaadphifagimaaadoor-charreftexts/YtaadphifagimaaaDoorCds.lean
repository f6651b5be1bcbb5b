/- A row of codes in memory; a reference by a number. -/
import Derived.Test.YtaadphifagimaaaDoorDig
import Derived.Test.YtaadphifagimaaaDoorShelf
import Derived.Laws.AppendOwn
import Derived.Maps.AppendAt
namespace Go.Proofs.YtaadphifagimaaaDoor
open Go.RowKit

theorem info3 : (Tryd.prog.info? 3).map (fun i => (i.zero, i.size, i.bytes)) = some (some (.int .i64 0), 1, 8) := by kernel_rfl

/-- The value v is a row of the numbers L, in memory of its own from B on. -/
abbrev Cds (w : World) (B : Nat) (v : Value) (L : List Int) : Prop := w.ownsRow B 3 1 v L.length (L.map (Value.int .i64))

theorem cds_nil (w : World) (B : Nat) : Cds w B (.slice none 0 0) [] := ⟨rfl, .inl ⟨rfl, rfl⟩⟩
theorem cds_one (w : World) (B : Nat) (x : Int) (hB : B ≤ w.heap.size) : Cds (w.alloc (.cells #[.int .i64 x] 3)) B (.slice (some ⟨w.heap.size, 0, none⟩) 1 1) [x] :=
  ⟨rfl, .inr ⟨w.heap.size, 1, #[.int .i64 x], rfl, hB, heap_alloc_new _ _, Nat.le_refl _, by unfold maxLen; omega, rfl, rfl⟩⟩
theorem cds_below {w w' : World} {B : Nat} {v : Value} {L : List Int} (h : Cds w B v L) (b : Below w.heap.size w w') : Cds w' B v L := by
  refine ⟨h.1, ?_⟩
  rcases h.2 with hn | ⟨g, cap, cur, hv, hBg, hg, rest⟩
  · exact .inl hn
  · exact .inr ⟨g, cap, cur, hv, hBg, (b.block g (Array.getElem?_eq_some_iff.1 hg).1).trans hg, rest⟩
theorem cds_mono {w : World} {B B' : Nat} {v : Value} {L : List Int} (h : Cds w B v L) (b : B' ≤ B) : Cds w B' v L := by
  refine ⟨h.1, ?_⟩
  rcases h.2 with hn | ⟨g, cap, cur, hv, hBg, rest⟩
  · exact .inl hn
  · exact .inr ⟨g, cap, cur, hv, by omega, rest⟩

/-- 'append' where its run is known by an equation. -/
theorem list_append_eq {P : Program} {ops : Array Oper} {rest : List Oper} {o : Oper} {a : Act} {w : World} {Q : Exit → Act → World → Prop}
    (hg : o.guard = none) (d x : Operand) (dT sT : TypeId) (hop : o.op = Op.call { callee := Callee.builtin Builtin.append, args := #[d, x], argTypes := #[dT, sT] })
    (v u : Value) (hd : a.eval d = v) (hx : a.eval x = u) {v' : Value} {w' : World} (hr : (Builtin.append_ #[dT, sT] o.type #[v, u]).run P w = .ok v' w') (hK : wpList P ops Q rest (a.put o.dst v') w') :
    wpList P ops Q (o :: rest) a w := by
  refine wpList_plain hg fun K hK2 => ?_
  unfold Oper.wp
  simp [execOp, hop, resolve, invoke, builtin, hd, hx, hr, Result.andThen]
  exact hK2 _ _ hK

/-- A code more in a row. -/
theorem cds_app {w : World} {B : Nat} {v : Value} {L : List Int} (h : Cds w B v L) (x : Int) (hB : B ≤ w.heap.size) (hL : L.length ≤ 1000) :
    ∃ v' w', (Builtin.append_ #[26, 26] 26 #[v, .slice (some ⟨w.heap.size, 0, none⟩) 1 1]).run Tryd.prog (w.alloc (.cells #[.int .i64 x] 3)) = .ok v' w' ∧ Cds w' B v' (L ++ [x]) ∧ Below B w w' := by
  obtain ⟨i0, hi, hz0, hz1, hz2⟩ := info_parts info3
  obtain ⟨W, hW⟩ : ∃ W, W = w.alloc (.cells #[.int .i64 x] 3) := ⟨_, rfl⟩
  have hnew : W.heap[w.heap.size]? = some (.cells #[.int .i64 x] 3 (0, 0)) := by rw [hW]; exact heap_alloc_new _ _
  have hbe : Below w.heap.size w W := by rw [hW]; exact (Below.refl _ _).alloc (Nat.le_refl _) _
  have hsz : W.heap.size = w.heap.size + 1 := by rw [hW]; simp
  rw [← hW]
  have hown := cds_below h hbe
  obtain ⟨l', w', hr, ho, hg, _, hloc⟩ := run_append_own_at (P := Tryd.prog) W B 26 26 3 i0 _ 1 8 Tryd.underlying26 hi hz0 hz1 hz2 rfl (by decide) v L.length _ hown ⟨w.heap.size, 0, none⟩ 1 1 [.int .i64 x] rfl
    (fun j u hj => by
      rw [Addr.add_lit, Nat.zero_add]
      simp [World.cell?, hnew]
      exact hj) (by simp [Value.oneCell']) (by unfold maxLen; omega) (by omega) (by omega)
  refine ⟨l', w', hr, ?_, ?_⟩
  · show w'.ownsRow B 3 1 l' (L ++ [x]).length ((L ++ [x]).map (Value.int .i64))
    rw [List.length_append, List.map_append]
    exact ho
  · refine (hbe.mono hB).grown hg (by omega) (fun k hk => ?_)
    rcases hown.2 with ⟨hv, _⟩ | ⟨g, cap, cur, hv, hBg, _⟩
    · rw [hv] at hk; simp [Value.ownBlock] at hk
    · rw [hv] at hk; simp [Value.ownBlock] at hk; omega

theorem bytes_drop (s : ByteArray) (n : Nat) : (s.extract n s.size).data.toList = s.data.toList.drop n := by
  simp only [ByteArray.data_extract, Array.toList_extract, List.extract_eq_take_drop]
  rw [List.take_of_length_le]
  simp
end Go.Proofs.YtaadphifagimaaaDoor

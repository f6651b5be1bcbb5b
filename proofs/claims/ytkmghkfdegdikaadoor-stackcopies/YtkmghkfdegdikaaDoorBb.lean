/- A row of elements that came in, pushed one by one. -/
import Derived.Test.YtkmghkfdegdikaaDoorBa
namespace Go.Proofs.YtkmghkfdegdikaaDoor
open Go.ChangeShapes Go.WideShapes Go.ChangeAt Go.RowKit Go.Joins

theorem AtsL.old {w w' : World} {v : Value} {A : List At} (h : AtsL w v A) (b : Below w.heap.size w w') : AtsL w' v A := by
  obtain ⟨ao, cap, rfl, hr⟩ := h
  exact ⟨ao, cap, rfl, hr.old b⟩
theorem ElsIn.old {w w' : World} {lo : Option Addr} {len : Nat} {l : List El} (h : ElsIn w lo len l) (b : Below w.heap.size w w') : ElsIn w' lo len l :=
  ⟨h.hlen, fun i d hd => by
    obtain ⟨k, off, h1, h2, h3, h4, h5⟩ := h.row i d hd
    exact ⟨k, off, h1, Nat.lt_of_lt_of_le h2 b.size, h3.mv (b.block k h2), h4.old b, h5⟩⟩
/-- The element at a place of a row that came in. -/
theorem ElsIn.at {w : World} {lo : Option Addr} {len : Nat} {l : List El} (h : ElsIn w lo len l) {i : Nat} (hi : i < len) :
    ∃ d b off ao ac, l[i]? = some d ∧ lo = some ⟨b, off, none⟩ ∧ w.cell? ⟨b, off + i * 4, none⟩ = some (iv d.id) ∧ w.cell? ⟨b, off + i * 4 + 1, none⟩ = some (iv d.sp) ∧ w.cell? ⟨b, off + i * 4 + 2, none⟩ = some (.string d.nm) ∧ w.cell? ⟨b, off + i * 4 + 3, none⟩ = some d.av ∧ d.av = .slice ao d.al.length ac ∧ Ats w d.av d.al := by
  obtain ⟨d, hd⟩ : ∃ d, l[i]? = some d := ⟨_, List.getElem?_eq_getElem (by rw [h.hlen]; exact hi)⟩
  obtain ⟨b, off, h1, h2, h3, ⟨ao, ac, h4, h6⟩, h5⟩ := h.row i d hd
  exact ⟨d, b, off, ao, ac, hd, h1, h3 0 _ rfl, h3 1 _ rfl, h3 2 _ rfl, h3 3 _ rfl, h4, ⟨ao, ac, h4, h6⟩, h5⟩
/-- What is the same of two elements. -/
abbrev El.pu (d : El) : Int × Int × ByteArray × List At := (d.id, d.sp, d.nm, d.al)
theorem pu_sn {A B : List El} (h : A.map El.pu = B.map El.pu) : A.map El.sn = B.map El.sn := by
  have e : ∀ M : List El, M.map El.sn = (M.map El.pu).map fun p => (p.2.1, p.2.2.1) := fun M => by rw [List.map_map]; rfl
  rw [e, e, h]
/-- So many have been pushed. -/
def Psh (B : Nat) (w wr : World) (L : List El) (i x : Nat) : Prop := ∃ M rv, Below B w wr ∧ Stk (fun k => k < B) wr x rv M ∧ M.map El.pu = (L.take i).map El.pu ∧ M.length = i
theorem Psh.next {w wr : World} {L : List El} {i x : Nat} {d : El} (h : Psh w.heap.size w wr L i x) (hd : L[i]? = some d) (ha : Ats wr d.av d.al) (hi : i ≤ 1000000000) : Calls Tryd.prog 18 #[ptr x, .agg d.arr] wr fun e w' => e = .returned (.tuple #[]) ∧ Psh w.heap.size w w' L (i + 1) x := by
  obtain ⟨M, rv, h1, h2, h3, h4⟩ := h
  refine (push_any h2 (by omega) d ha).mono ?_
  rintro e w' ⟨rfl, rv', v', s', k'⟩
  refine ⟨rfl, _, rv', h1.trans (k'.below (fun _ h => h) h1.size), s', ?_, by rw [List.length_append, h4]; rfl⟩
  rw [List.map_append, h3, List.take_add_one, hd]
  simp
end Go.Proofs.YtkmghkfdegdikaaDoor

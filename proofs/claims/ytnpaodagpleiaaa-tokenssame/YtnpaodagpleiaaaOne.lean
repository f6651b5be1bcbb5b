/- What the laws on one token have in common. -/
import Derived.Test.YtnpaodagpleiaaaBase
namespace Go.Proofs.Ytnpaodagpleiaaa
open Go.ChangeShapes Go.WideShapes Go.ChangeAt Go.RowKit Go.Joins

theorem tk_one {w : World} {b : Nat} {X : TL} (h : w.heap[b]? = some (.cells X.1.arr 26 (0, 0))) (hx : TkOk w X.1 X.2) : TkRow w (some ⟨b, 0, none⟩) [X] := fun i z hz => by
  have hb := (Array.getElem?_eq_some_iff.1 h).1
  have hi : i = 0 := by
    have := (List.getElem?_eq_some_iff.1 hz).1
    simpa using this
  subst hi
  simp at hz
  subst hz
  refine ⟨⟨b, 0, rfl, hb, fun j u hj => ?_⟩, hx⟩
  simp only [World.cell?, h]
  simp only [Nat.zero_mul, Nat.zero_add]
  exact hj
/-- Two tokens whose fields are the same, and whose attributes are, are the same. -/
theorem eqb_yes {T U : Tk} (L : List At) (h1 : T.k = U.k) (h2 : T.r = U.r) (h3 : T.nm = U.nm) (h4 : T.tx = U.tx) (h5 : T.s = U.s) (h6 : T.f = U.f) (h7 : T.t = U.t) : Tk.eqb T U L L = true := by
  unfold Tk.eqb
  simp [h1, h2, h3, h4, h5, h6, h7, eqL_refl]
/-- Two tokens in boxes, with their attributes, in a world that came of w. -/
structure Two (w : World) (b1 b2 : Nat) (T U : Tk) (A B : List At) (x : World) : Prop where
  bel : Below w.heap.size w x
  okT : TkOk x T A
  boxT : TkBox x b1 T
  l1 : b1 < x.heap.size
  okU : TkOk x U B
  boxU : TkBox x b2 U
  l2 : b2 < x.heap.size
theorem Two.below {w x x' : World} {b1 b2 : Nat} {T U : Tk} {A B : List At} (h : Two w b1 b2 T U A B x) (b : Below x.heap.size x x') : Two w b1 b2 T U A B x' :=
  ⟨h.bel.trans (b.mono h.bel.size), h.okT.below b, h.boxT.below b h.l1, Nat.lt_of_lt_of_le h.l1 b.size, h.okU.below b, h.boxU.below b h.l2, Nat.lt_of_lt_of_le h.l2 b.size⟩
theorem Two.drewN {w x : World} {b1 b2 : Nat} {T U : Tk} {A B : List At} (h : Two w b1 b2 T U A B x) (q : Nat) : Two w b1 b2 T U A B (x.drewN q) := h.below (below_drewN (Below.refl _ _) q)
/-- The law's first step: the token in its box, and in a row of one. -/
theorem boxed {w V : World} {T : Tk} {L : List At} (hT : TkOk w T L) (hV : (w.alloc (.cells T.arr 26)).alloc (.cells T.arr 26) = V) :
    Below w.heap.size w V ∧ TkOk V T L ∧ TkBox V w.heap.size T ∧ w.heap.size < V.heap.size ∧ TkRow V (some ⟨w.heap.size + 1, 0, none⟩) [(T, L)] := by
  have bV : Below w.heap.size w V := by rw [← hV]; exact ((Below.refl _ _).alloc (Nat.le_refl _) _).alloc (by simp) _
  have x1 : V.heap[w.heap.size]? = some (.cells T.arr 26 (0, 0)) := by
    rw [← hV, Below.heap_alloc _ _ _ (by simp)]; exact heap_alloc_new _ _
  have x2 : V.heap[w.heap.size + 1]? = some (.cells T.arr 26 (0, 0)) := by
    rw [← hV]
    have := heap_alloc_new (w.alloc (.cells T.arr 26)) (.cells T.arr 26)
    rw [show (w.alloc (.cells T.arr 26)).heap.size = w.heap.size + 1 by simp] at this
    exact this
  have ok := hT.below bV
  exact ⟨bV, ok, TkBox.of x1, (Array.getElem?_eq_some_iff.1 x1).1, tk_one (X := (T, L)) x2 ok⟩
end Go.Proofs.Ytnpaodagpleiaaa

/- Rows behind one another. -/
import Derived.Test.YtaadphifagimaaaDoorIn
import Derived.Deep.Upon
namespace Go.Proofs.YtaadphifagimaaaDoor
open Go.RowKit


theorem cells_at : ∀ (M : List Rf) (j : Nat) (u : Value), (M.flatMap Rf.cells)[j]? = some u → ∃ i x, M[i]? = some x ∧ ((j = i * 2 ∧ u = .string x.n) ∨ (j = i * 2 + 1 ∧ u = .int .i64 x.r))
  | [], j, u, h => by simp at h
  | x :: M, 0, u, h => ⟨0, x, rfl, .inl ⟨rfl, by simpa [Rf.cells] using h.symm⟩⟩
  | x :: M, 1, u, h => ⟨0, x, rfl, .inr ⟨rfl, by simpa [Rf.cells] using h.symm⟩⟩
  | x :: M, j + 2, u, h => by
    have h' : (M.flatMap Rf.cells)[j]? = some u := by simpa [Rf.cells] using h
    obtain ⟨i, y, h1, h2⟩ := cells_at M j u h'
    refine ⟨i + 1, y, by simpa using h1, ?_⟩
    rcases h2 with ⟨h2, h3⟩ | ⟨h2, h3⟩
    · exact .inl ⟨by omega, h3⟩
    · exact .inr ⟨by omega, h3⟩
theorem cells_one : ∀ (M : List Rf) (u : Value), u ∈ M.flatMap Rf.cells → u.oneCell' = true := fun M u h => by
  rw [List.mem_flatMap] at h
  obtain ⟨x, _, h⟩ := h
  simp only [Rf.cells, List.mem_cons, List.not_mem_nil, or_false] at h
  rcases h with rfl | rfl <;> rfl
theorem cells_len (M : List Rf) : (M.flatMap Rf.cells).length = M.length * 2 := by
  induction M with
  | nil => rfl
  | cons x M ih => rw [List.flatMap_cons, List.length_append, ih, List.length_cons]; simp [Rf.cells]; omega

/-- Names behind a row of one's own. -/
theorem row_more {w : World} {B : Nat} {l : Value} {L M : List Rf} (h : RowIs w B l L) (ao : Option Addr) (c : Nat) (hM : RefRow w ao M) (hB : B ≤ w.heap.size) (hL : L.length ≤ 1000) (hM2 : M.length ≤ 1000) :
    ∃ l' w', (Builtin.append_ #[43, 43] 43 #[l, .slice ao M.length c]).run Tryd.prog w = .ok l' w' ∧ RowIs w' B l' (L ++ M) ∧ LFr (.slice none 0 0) l w w' := by
  obtain ⟨i0, hi, hz0, hz1, hz2⟩ := info_parts info73
  by_cases h0 : M = []
  · subst h0
    obtain ⟨bo, cap, rfl, _, hc, _⟩ := row_ref4 h
    have hs : Src Tryd.prog i0.size 43 (.slice ao 0 c) 0 [] w := by
      cases ao with
      | none => exact Src.ofNil w Tryd.underlying43 c
      | some a => exact Src.ofSlice w Tryd.underlying43 a 0 c [] (by simp) (by simp) (by simp)
    exact ⟨_, _, run_append_nothing (P := Tryd.prog) w 43 43 43 73 i0 Tryd.underlying43 hi bo L.length cap hc _ hs, by rw [List.append_nil]; exact h, LFr.refl _ _ _⟩
  · obtain ⟨x, hx⟩ : ∃ x, M[0]? = some x := by
      cases M with
      | nil => exact absurd rfl h0
      | cons x M => exact ⟨x, rfl⟩
    obtain ⟨b, off, rfl, _⟩ := hM 0 x hx
    obtain ⟨l', w', hr, ho, hg, _, _⟩ := run_append_own_at (P := Tryd.prog) w B 43 43 73 i0 _ 2 24 Tryd.underlying43 hi hz0 hz1 hz2 rfl (by decide) l L.length _ h ⟨b, off, none⟩ M.length c (M.flatMap Rf.cells) (cells_len M)
      (fun j u hj => by
        rw [Addr.add_lit]
        obtain ⟨i, y, h1, h2⟩ := cells_at M j u hj
        obtain ⟨b', off', e, _, c1, c2⟩ := hM i y h1
        simp only [Option.some.injEq, Addr.mk.injEq, and_true] at e
        obtain ⟨rfl, rfl⟩ := e
        rcases h2 with ⟨rfl, rfl⟩ | ⟨rfl, rfl⟩
        · exact c1
        · rw [← Nat.add_assoc]; exact c2) (cells_one M) (by unfold maxLen; omega) (by omega) hB
    refine ⟨l', w', hr, ?_, ?_⟩
    · show w'.ownsRow B 73 2 l' (L ++ M).length ((L ++ M).flatMap Rf.cells)
      rw [List.length_append, List.flatMap_append]
      exact ho
    · exact ⟨hg.os, hg.tape, hg.output, hg.size, fun d hd _ hne => hg.block d hd hne⟩

theorem ref_take {w : World} {ao : Option Addr} {A : List Rf} (h : RefRow w ao A) (k : Nat) : RefRow w ao (A.take k) := fun i x hx => by
  have hil : i < k := by
    have := (List.getElem?_eq_some_iff.1 hx).1
    rw [List.length_take] at this
    omega
  rw [List.getElem?_take_of_lt hil] at hx
  exact h i x hx
theorem ref_drop {w : World} {ao : Option Addr} {A : List Rf} (h : RefRow w ao A) (k cap : Nat) (hc : A.length ≤ cap) : RefRow w (if cap = k then ao else ao.map (·.add (k * 2))) (A.drop k) := fun i x hx => by
  have hil := (List.getElem?_eq_some_iff.1 hx).1
  rw [List.length_drop] at hil
  rw [List.getElem?_drop] at hx
  obtain ⟨b, off, rfl, h1, h2, h3⟩ := h _ x hx
  rw [if_neg (by omega)]
  refine ⟨b, off + k * 2, by simp [Addr.add_lit], h1, ?_, ?_⟩
  · rw [show off + k * 2 + i * 2 = off + (k + i) * 2 by omega]; exact h2
  · rw [show off + k * 2 + i * 2 = off + (k + i) * 2 by omega]; exact h3
theorem ref_one (w : World) (x : Rf) : RefRow (w.alloc (.cells #[.string x.n, .int .i64 x.r] 73)) (some ⟨w.heap.size, 0, none⟩) [x] := fun i y hy => by
  have hi : i = 0 := by
    have := (List.getElem?_eq_some_iff.1 hy).1
    simp at this
    exact this
  subst hi
  simp at hy
  subst hy
  have hnew := heap_alloc_new w (.cells #[.string x.n, .int .i64 x.r] 73)
  obtain ⟨W, hW⟩ : ∃ W, w.alloc (.cells #[.string x.n, .int .i64 x.r] 73) = W := ⟨_, rfl⟩
  rw [hW] at hnew ⊢
  exact ⟨_, _, rfl, (Array.getElem?_eq_some_iff.1 hnew).1, by simp [World.cell?, hnew], by simp [World.cell?, hnew]⟩

theorem lfr_below {w w' : World} {B : Nat} {l : Value} {n : Nat} {xs : List Value} (h : LFr (.slice none 0 0) l w w') (ho : w.ownsRow B 73 2 l n xs) (hB : B ≤ w.heap.size) : Below B w w' :=
  ⟨h.os, h.tape, h.output, h.size, fun d hd => h.block d (by omega) (by simp [Value.ownBlock]) (fun e => by have := (own_blk ho e.symm).1; omega)⟩

/-- What is there when a name has been put into a row. -/
def Put1 (W : World) (A : List Rf) (v : Value) (w : World) : Prop := ∃ bo n c, v = .slice bo n c ∧ A.length = n ∧ RefRow w bo A ∧ n ≤ c ∧ c ≤ maxLen ∧ Below W.heap.size W w

theorem put_a {W : World} {ao bo : Option Addr} {A : List Rf} {k n : Nat} (cap c2 : Nat) (x : Rf) (hk : k ≤ A.length) (hn : A.length ≤ 400) (h1 : RefRow W ao (A.take k)) (h2 : RefRow W bo (A.drop k)) (hnk : A.length - k = n) :
    ∃ v1 w1 v2 w2 v3 w3, (Builtin.append_ #[43, 43] 43 #[.slice none 0 0, .slice ao k cap]).run Tryd.prog W.drew = .ok v1 w1 ∧
      (Builtin.append_ #[43, 43] 43 #[v1, .slice (some ⟨w1.heap.size, 0, none⟩) 1 1]).run Tryd.prog (w1.alloc (.cells #[.string x.n, .int .i64 x.r] 73)) = .ok v2 w2 ∧
      (Builtin.append_ #[43, 43] 43 #[v2, .slice bo n c2]).run Tryd.prog w2 = .ok v3 w3 ∧ Put1 W (A.take k ++ [x] ++ A.drop k) v3 w3 ∧ Below W.heap.size W w1 := by
  subst hnk
  have hlk : (A.take k).length = k := by rw [List.length_take]; omega
  have hdk : (A.drop k).length = A.length - k := List.length_drop
  have bW : Below W.heap.size W W.drew := (Below.refl _ _).drew
  obtain ⟨v1, w1, e1, r1, f1⟩ := row_more (w := W.drew) (B := W.heap.size) (L := []) (World.ownsRow_nil _ _ _ _) ao cap (h1.below bW) (Nat.le_refl _) (by simp) (by omega)
  rw [hlk] at e1
  rw [List.nil_append] at r1
  have b1 : Below W.heap.size W w1 := bW.trans (lfr_below f1 (World.ownsRow_nil _ _ _ _) (Nat.le_refl _))
  obtain ⟨w1', hw1'⟩ : ∃ w1', w1' = w1.alloc (.cells #[.string x.n, .int .i64 x.r] 73) := ⟨_, rfl⟩
  have b1' : Below w1.heap.size w1 w1' := by rw [hw1']; exact (Below.refl _ _).alloc (Nat.le_refl _) _
  have o1 := ref_one w1 x
  rw [← hw1'] at o1
  have r1' : RowIs w1' W.heap.size v1 (A.take k) := own_mv r1 fun g hg => b1'.block g (own_blk r1 hg).2.1
  have bb1 : Below W.heap.size W w1' := b1.trans (b1'.mono b1.size)
  obtain ⟨v2, w2, e2, r2, f2⟩ := row_more r1' _ 1 o1 bb1.size (by omega) (by simp)
  have b2 : Below W.heap.size W w2 := bb1.trans (lfr_below f2 r1' bb1.size)
  obtain ⟨v3, w3, e3, r3, f3⟩ := row_more r2 _ c2 (h2.below b2) b2.size (by simp; omega) (by omega)
  have b3 : Below W.heap.size W w3 := b2.trans (lfr_below f3 r2 b2.size)
  rw [hdk] at e3
  rw [hw1'] at e2
  obtain ⟨co, c3, rfl, g1, g2, g3⟩ := row_ref4 r3
  exact ⟨v1, w1, v2, w2, _, w3, e1, e2, e3, ⟨co, _, c3, rfl, rfl, g1, g2, g3, b3⟩, b1⟩

theorem put_b {W : World} {ao bo : Option Addr} {A : List Rf} {k n : Nat} (cap c2 : Nat) (x : Rf) (hk : k ≤ A.length) (hn : A.length ≤ 400) (h1 : RefRow W ao (A.take k)) (h2 : RefRow W bo (A.drop k)) (hnk : A.length - k = n) :
    ∃ v1 w1 v2 w2 v3 w3, (Builtin.append_ #[43, 43] 43 #[.slice none 0 0, .slice ao k cap]).run Tryd.prog (W.alloc (.cells #[.string x.n, .int .i64 x.r] 73)).drew = .ok v1 w1 ∧
      (Builtin.append_ #[43, 43] 43 #[v1, .slice (some ⟨W.heap.size, 0, none⟩) 1 1]).run Tryd.prog w1 = .ok v2 w2 ∧
      (Builtin.append_ #[43, 43] 43 #[v2, .slice bo n c2]).run Tryd.prog w2 = .ok v3 w3 ∧ Put1 W (A.take k ++ [x] ++ A.drop k) v3 w3 := by
  subst hnk
  have hlk : (A.take k).length = k := by rw [List.length_take]; omega
  have hdk : (A.drop k).length = A.length - k := List.length_drop
  obtain ⟨V, hV⟩ : ∃ V, V = (W.alloc (.cells #[.string x.n, .int .i64 x.r] 73)).drew := ⟨_, rfl⟩
  have bV : Below W.heap.size W V := by rw [hV]; exact ((Below.refl _ _).alloc (Nat.le_refl _) _).drew
  have hVs : V.heap.size = W.heap.size + 1 := by rw [hV]; simp [World.drew]
  have o1 : RefRow V (some ⟨W.heap.size, 0, none⟩) [x] := by rw [hV]; exact (ref_one W x).below (Below.refl _ _).drew
  rw [← hV]
  obtain ⟨v1, w1, e1, r1, f1⟩ := row_more (w := V) (B := V.heap.size) (L := []) (World.ownsRow_nil _ _ _ _) ao cap (h1.below bV) (Nat.le_refl _) (by simp) (by omega)
  rw [hlk] at e1
  rw [List.nil_append] at r1
  have b1 : Below V.heap.size V w1 := lfr_below f1 (World.ownsRow_nil _ _ _ _) (Nat.le_refl _)
  obtain ⟨v2, w2, e2, r2, f2⟩ := row_more r1 _ 1 (o1.below b1) b1.size (by omega) (by simp)
  have b2 : Below V.heap.size V w2 := b1.trans (lfr_below f2 r1 b1.size)
  have b2' : Below W.heap.size W w2 := bV.trans (b2.mono (by omega))
  obtain ⟨v3, w3, e3, r3, f3⟩ := row_more r2 _ c2 (h2.below b2') b2.size (by simp; omega) (by omega)
  have b3 : Below V.heap.size V w3 := b2.trans (lfr_below f3 r2 b2.size)
  rw [hdk] at e3
  obtain ⟨co, c3, rfl, g1, g2, g3⟩ := row_ref4 r3
  exact ⟨v1, w1, v2, w2, _, w3, e1, e2, e3, co, _, c3, rfl, rfl, g1, g2, g3, bV.trans (b3.mono (by omega))⟩
end Go.Proofs.YtaadphifagimaaaDoor

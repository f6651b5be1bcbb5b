/- The three rows while a node is added. -/
import Derived.Test.YtcdaghlbfclpkaaAh
import Derived.Test.YtcdaghlbfclpkaaAg
namespace Go.Proofs.Ytcdaghlbfclpkaa
open Go.RowKit

structure Mid (S : Nat → Prop) (w : World) (x : Nat) (nv sv ev : Value) (N : List Nd) (P : List Sp) (E : List En) : Prop where
  low : ∀ k, S k → k < w.heap.size
  hx : ¬ S x
  blk : w.heap[x]? = some (.cells #[nv, sv, ev] 65 (0, 0))
  nr : Rw S w 35 11 nv N.length (N.flatMap Nd.cells)
  sr : Rw S w 77 4 sv P.length (P.flatMap Sp.cells)
  er : Rw S w 79 2 ev E.length (E.flatMap En.cells)
  ats : ∀ d ∈ N, Rw S w 53 2 d.av d.al.length (d.al.flatMap At.cells)
theorem ArV.mid {S : Nat → Prop} {w : World} {x : Nat} {nv sv ev : Value} {N : List Nd} {P : List Sp} {E : List En} (h : ArV S w x nv sv ev N P E) : Mid S w x nv sv ev N P E := ⟨h.low, h.hx, h.blk, h.nr, h.sr, h.er, h.ats⟩
theorem Mid.lt {S : Nat → Prop} {w : World} {x : Nat} {nv sv ev : Value} {N : List Nd} {P : List Sp} {E : List En} (h : Mid S w x nv sv ev N P E) : x < w.heap.size := (Array.getElem?_eq_some_iff.1 h.blk).1
/-- A row that stands while x and a row of another type turn. -/
theorem Rw.pass {S : Nat → Prop} {w w' : World} {e s n t x : Nat} {v u : Value} {xs : List Value} {cx : Array Value} {zx : Nat × Nat} {m r : Nat} {ys : List Value} (h : Rw S w e s v n xs) (hk : ∀ k, k < w.heap.size → k ≠ x → some k ≠ u.ownBlock → w'.heap[k]? = w.heap[k]?) (hx : w.heap[x]? = some (.cells cx 65 zx)) (he : 65 ≠ e) (ho : Rw S w t r u m ys) (ht : t ≠ e) : Rw S w' e s v n xs := h.mv fun g hg => by
  obtain ⟨h1, c, h2⟩ := own_blk h.own hg
  refine hk g h1 (fun q => ?_) (fun q => ?_)
  · rw [q, hx] at h2
    simp at h2
    exact he h2.2.1
  · obtain ⟨_, c', h3⟩ := own_blk ho.own q.symm
    rw [h2] at h3
    simp at h3
    exact ht h3.2.symm
theorem Mid.growS {S : Nat → Prop} {w : World} {x : Nat} {nv sv ev : Value} {N : List Nd} {P : List Sp} {E : List En} (h : Mid S w x nv sv ev N P E) (hP : P.length ≤ 1000000000) :
    ∃ ao n c W, (Builtin.append_ #[62, 62] 62 #[sv, .slice (some ⟨w.heap.size, 0, none⟩) 1 1]).run Try.prog (w.alloc (.cells #[Value.bool false, Value.int IntKind.i64 0, Value.int IntKind.i64 0, Value.int IntKind.i64 0] 77)) = .ok (.slice ao n c) W ∧ W.cell? ⟨x, 1, none⟩ = some sv ∧ W.frozen? ⟨x, 1, none⟩ = false ∧
      Mid S (W.setCell ⟨x, 1, none⟩ (.slice ao n c)) x nv (.slice ao n c) ev N (P ++ [⟨false, 0, 0, 0⟩]) E ∧ Keep S w (W.setCell ⟨x, 1, none⟩ (.slice ao n c)) ∧ (∀ y a, Bx w y a → Bx (W.setCell ⟨x, 1, none⟩ (.slice ao n c)) y a) := by
  have b1 : Below w.heap.size w (w.alloc (.cells #[Value.bool false, Value.int IntKind.i64 0, Value.int IntKind.i64 0, Value.int IntKind.i64 0] 77)) := (Below.refl _ _).alloc (Nat.le_refl _) _
  obtain ⟨v', W', h1, h2, h3, h4⟩ := Rw.app (t := 62) (e := 77) (S := S) Try.underlying62 info77 rfl (by decide) (by decide) (h.sr.old b1) (fun k hk => Nat.lt_of_lt_of_le (h.low k hk) b1.size) w.heap.size 0 1 1 [Value.bool false, Value.int IntKind.i64 0, Value.int IntKind.i64 0, Value.int IntKind.i64 0] rfl
    (fun j u hj => by rw [Nat.zero_add, World.cell?_alloc_at _ _ _ _ rfl, ← hj]; simp) (by intro u hu; simp only [List.mem_cons, List.not_mem_nil, or_false] at hu; rcases hu with rfl | rfl | rfl | rfl <;> rfl) (by omega)
  obtain ⟨ao, c, rfl, _⟩ := h2.slice
  have g : w.grownBy W' sv.ownBlock := ⟨h3.os.trans b1.os, h3.tape.trans b1.tape, h3.output.trans b1.output, Nat.le_trans b1.size h3.size, fun k hk hne => (h3.block k (Nat.lt_of_lt_of_le hk b1.size) hne).trans (b1.block k hk)⟩
  have hxr : some x ≠ sv.ownBlock := fun q => by
    obtain ⟨_, c', h5⟩ := own_blk h.sr.own q.symm
    rw [h.blk] at h5
    simp at h5
  have hx1 : W'.heap[x]? = some (.cells #[nv, sv, ev] 65 (0, 0)) := (g.block x h.lt hxr).trans h.blk
  have hk : ∀ k, k < w.heap.size → k ≠ x → some k ≠ sv.ownBlock → (W'.setCell ⟨x, 1, none⟩ (.slice ao (P.length + 1) c)).heap[k]? = w.heap[k]? := fun k h1 h2 h3 => (heap_setCell_other W' ⟨x, 1, none⟩ k _ h2).trans (g.block k h1 h3)
  have p1 : ∀ {e s n : Nat} {v : Value} {xs : List Value}, Rw S w e s v n xs → 65 ≠ e → 77 ≠ e → Rw S (W'.setCell ⟨x, 1, none⟩ (.slice ao (P.length + 1) c)) e s v n xs := fun hq he ht => hq.pass hk h.blk he h.sr ht
  have q3 : Rw S (W'.setCell ⟨x, 1, none⟩ (.slice ao (P.length + 1) c)) 77 4 (.slice ao (P.length + 1) c) (P ++ [(⟨false, 0, 0, 0⟩ : Sp)]).length ((P ++ [(⟨false, 0, 0, 0⟩ : Sp)]).flatMap Sp.cells) := by
    rw [List.length_append, List.flatMap_append]
    exact h2.off (b := x) (fun g _ hg => heap_setCell_other W' ⟨x, 1, none⟩ g _ hg) hx1 (by decide)
  refine ⟨ao, _, c, W', h1, by simp [World.cell?, hx1], frozen_of_row W' x 1 _ 65 hx1, ⟨fun k hk => Nat.lt_of_lt_of_le (h.low k hk) (by simpa using g.size), h.hx, heap_setCell_same W' x 1 _ 65 _ hx1, p1 h.nr (by decide) (by decide), q3, p1 h.er (by decide) (by decide), fun d hd => p1 (h.ats d hd) (by decide) (by decide)⟩, (Keep.grown g h.sr.out).trans ⟨rfl, rfl, rfl, by simp, fun k hk _ => heap_setCell_other W' ⟨x, 1, none⟩ k _ (fun q => h.hx (by have q' : k = x := q; rw [q'] at hk; exact hk))⟩, fun y a hy => (hk y hy.lt (fun q => by rw [q] at hy; have := hy.symm.trans h.blk; simp at this) (fun q => by obtain ⟨_, c', h5⟩ := own_blk h.sr.own q.symm; have := hy.symm.trans h5; simp at this)).trans hy⟩
theorem Mid.growE {S : Nat → Prop} {w : World} {x : Nat} {nv sv ev : Value} {N : List Nd} {P : List Sp} {E : List En} (h : Mid S w x nv sv ev N P E) (hP : E.length ≤ 1000000000) :
    ∃ ao n c W, (Builtin.append_ #[63, 63] 63 #[ev, .slice (some ⟨w.heap.size, 0, none⟩) 1 1]).run Try.prog (w.alloc (.cells #[Value.int IntKind.i64 0, Value.int IntKind.i64 0] 79)) = .ok (.slice ao n c) W ∧ W.cell? ⟨x, 2, none⟩ = some ev ∧ W.frozen? ⟨x, 2, none⟩ = false ∧
      Mid S (W.setCell ⟨x, 2, none⟩ (.slice ao n c)) x nv sv (.slice ao n c) N P (E ++ [⟨0, 0⟩]) ∧ Keep S w (W.setCell ⟨x, 2, none⟩ (.slice ao n c)) ∧ (∀ y a, Bx w y a → Bx (W.setCell ⟨x, 2, none⟩ (.slice ao n c)) y a) := by
  have b1 : Below w.heap.size w (w.alloc (.cells #[Value.int IntKind.i64 0, Value.int IntKind.i64 0] 79)) := (Below.refl _ _).alloc (Nat.le_refl _) _
  obtain ⟨v', W', h1, h2, h3, h4⟩ := Rw.app (t := 63) (e := 79) (S := S) Try.underlying63 info79 rfl (by decide) (by decide) (h.er.old b1) (fun k hk => Nat.lt_of_lt_of_le (h.low k hk) b1.size) w.heap.size 0 1 1 [Value.int IntKind.i64 0, Value.int IntKind.i64 0] rfl
    (fun j u hj => by rw [Nat.zero_add, World.cell?_alloc_at _ _ _ _ rfl, ← hj]; simp) (by intro u hu; simp only [List.mem_cons, List.not_mem_nil, or_false] at hu; rcases hu with rfl | rfl <;> rfl) (by omega)
  obtain ⟨ao, c, rfl, _⟩ := h2.slice
  have g : w.grownBy W' ev.ownBlock := ⟨h3.os.trans b1.os, h3.tape.trans b1.tape, h3.output.trans b1.output, Nat.le_trans b1.size h3.size, fun k hk hne => (h3.block k (Nat.lt_of_lt_of_le hk b1.size) hne).trans (b1.block k hk)⟩
  have hxr : some x ≠ ev.ownBlock := fun q => by
    obtain ⟨_, c', h5⟩ := own_blk h.er.own q.symm
    rw [h.blk] at h5
    simp at h5
  have hx1 : W'.heap[x]? = some (.cells #[nv, sv, ev] 65 (0, 0)) := (g.block x h.lt hxr).trans h.blk
  have hk : ∀ k, k < w.heap.size → k ≠ x → some k ≠ ev.ownBlock → (W'.setCell ⟨x, 2, none⟩ (.slice ao (E.length + 1) c)).heap[k]? = w.heap[k]? := fun k h1 h2 h3 => (heap_setCell_other W' ⟨x, 2, none⟩ k _ h2).trans (g.block k h1 h3)
  have p1 : ∀ {e s n : Nat} {v : Value} {xs : List Value}, Rw S w e s v n xs → 65 ≠ e → 79 ≠ e → Rw S (W'.setCell ⟨x, 2, none⟩ (.slice ao (E.length + 1) c)) e s v n xs := fun hq he ht => hq.pass hk h.blk he h.er ht
  have q3 : Rw S (W'.setCell ⟨x, 2, none⟩ (.slice ao (E.length + 1) c)) 79 2 (.slice ao (E.length + 1) c) (E ++ [(⟨0, 0⟩ : En)]).length ((E ++ [(⟨0, 0⟩ : En)]).flatMap En.cells) := by
    rw [List.length_append, List.flatMap_append]
    exact h2.off (b := x) (fun g _ hg => heap_setCell_other W' ⟨x, 2, none⟩ g _ hg) hx1 (by decide)
  refine ⟨ao, _, c, W', h1, by simp [World.cell?, hx1], frozen_of_row W' x 2 _ 65 hx1, ⟨fun k hk => Nat.lt_of_lt_of_le (h.low k hk) (by simpa using g.size), h.hx, heap_setCell_same W' x 2 _ 65 _ hx1, p1 h.nr (by decide) (by decide), p1 h.sr (by decide) (by decide), q3, fun d hd => p1 (h.ats d hd) (by decide) (by decide)⟩, (Keep.grown g h.er.out).trans ⟨rfl, rfl, rfl, by simp, fun k hk _ => heap_setCell_other W' ⟨x, 2, none⟩ k _ (fun q => h.hx (by have q' : k = x := q; rw [q'] at hk; exact hk))⟩, fun y a hy => (hk y hy.lt (fun q => by rw [q] at hy; have := hy.symm.trans h.blk; simp at this) (fun q => by obtain ⟨_, c', h5⟩ := own_blk h.er.own q.symm; have := hy.symm.trans h5; simp at this)).trans hy⟩
theorem list11 (xs : List Value) (o : Nat) (ho : xs.length = o) (c0 c1 c2 c3 c4 c5 c6 c7 c8 c9 c10 u0 u1 u2 u3 u4 u5 u6 u7 u8 u9 u10 : Value) : (((((((((((xs ++ [c0, c1, c2, c3, c4, c5, c6, c7, c8, c9, c10]).set o u0).set (o + 1) u1).set (o + 2) u2).set (o + 3) u3).set (o + 4) u4).set (o + 5) u5).set (o + 6) u6).set (o + 7) u7).set (o + 8) u8).set (o + 9) u9).set (o + 10) u10 = xs ++ [u0, u1, u2, u3, u4, u5, u6, u7, u8, u9, u10] := by
  subst ho
  repeat rw [List.set_append_right _ _ (by simp)]
  simp
theorem Rw.put11 {S : Nat → Prop} {w : World} {g n cap o : Nat} {xs : List Value} {c0 c1 c2 c3 c4 c5 c6 c7 c8 c9 c10 : Value} (h : Rw S w 35 11 (.slice (some ⟨g, 0, none⟩) n cap) n (xs ++ [c0, c1, c2, c3, c4, c5, c6, c7, c8, c9, c10])) (ho : xs.length = o) (u0 u1 u2 u3 u4 u5 u6 u7 u8 u9 u10 : Value) :
    Rw S (((((((((((w.setCell ⟨g, o, none⟩ u0).setCell ⟨g, o + 1, none⟩ u1).setCell ⟨g, o + 2, none⟩ u2).setCell ⟨g, o + 3, none⟩ u3).setCell ⟨g, o + 4, none⟩ u4).setCell ⟨g, o + 5, none⟩ u5).setCell ⟨g, o + 6, none⟩ u6).setCell ⟨g, o + 7, none⟩ u7).setCell ⟨g, o + 8, none⟩ u8).setCell ⟨g, o + 9, none⟩ u9).setCell ⟨g, o + 10, none⟩ u10) 35 11 (.slice (some ⟨g, 0, none⟩) n cap) n (xs ++ [u0, u1, u2, u3, u4, u5, u6, u7, u8, u9, u10]) := by
  have k := (((((((((((h.set o u0).1.set (o + 1) u1).1.set (o + 2) u2).1.set (o + 3) u3).1.set (o + 4) u4).1.set (o + 5) u5).1.set (o + 6) u6).1.set (o + 7) u7).1.set (o + 8) u8).1.set (o + 9) u9).1.set (o + 10) u10).1
  rw [list11 xs o ho] at k
  exact k
theorem put11_other (w : World) (g o : Nat) (u0 u1 u2 u3 u4 u5 u6 u7 u8 u9 u10 : Value) (k : Nat) (hk : k ≠ g) : (((((((((((w.setCell ⟨g, o, none⟩ u0).setCell ⟨g, o + 1, none⟩ u1).setCell ⟨g, o + 2, none⟩ u2).setCell ⟨g, o + 3, none⟩ u3).setCell ⟨g, o + 4, none⟩ u4).setCell ⟨g, o + 5, none⟩ u5).setCell ⟨g, o + 6, none⟩ u6).setCell ⟨g, o + 7, none⟩ u7).setCell ⟨g, o + 8, none⟩ u8).setCell ⟨g, o + 9, none⟩ u9).setCell ⟨g, o + 10, none⟩ u10).heap[k]? = w.heap[k]? :=
  (heap_setCell_other _ ⟨g, o + 10, none⟩ k u10 hk).trans ((heap_setCell_other _ ⟨g, o + 9, none⟩ k u9 hk).trans ((heap_setCell_other _ ⟨g, o + 8, none⟩ k u8 hk).trans ((heap_setCell_other _ ⟨g, o + 7, none⟩ k u7 hk).trans ((heap_setCell_other _ ⟨g, o + 6, none⟩ k u6 hk).trans ((heap_setCell_other _ ⟨g, o + 5, none⟩ k u5 hk).trans ((heap_setCell_other _ ⟨g, o + 4, none⟩ k u4 hk).trans ((heap_setCell_other _ ⟨g, o + 3, none⟩ k u3 hk).trans ((heap_setCell_other _ ⟨g, o + 2, none⟩ k u2 hk).trans ((heap_setCell_other _ ⟨g, o + 1, none⟩ k u1 hk).trans (heap_setCell_other _ ⟨g, o, none⟩ k u0 hk))))))))))
/-- All but the heap is the same, and the heap is no smaller. -/
structure Sm (w w' : World) : Prop where
  os : w'.os = w.os
  tape : w'.tape = w.tape
  output : w'.output = w.output
  size : w.heap.size ≤ w'.heap.size
theorem Sm.refl (w : World) : Sm w w := ⟨rfl, rfl, rfl, Nat.le_refl _⟩
theorem Sm.set {w w' : World} (h : Sm w w') (p : Addr) (u : Value) : Sm w (w'.setCell p u) := ⟨h.os, h.tape, h.output, by simpa using h.size⟩
theorem put11_same {w w' : World} (h : Sm w w') (g o : Nat) (u0 u1 u2 u3 u4 u5 u6 u7 u8 u9 u10 : Value) : Sm w (((((((((((w'.setCell ⟨g, o, none⟩ u0).setCell ⟨g, o + 1, none⟩ u1).setCell ⟨g, o + 2, none⟩ u2).setCell ⟨g, o + 3, none⟩ u3).setCell ⟨g, o + 4, none⟩ u4).setCell ⟨g, o + 5, none⟩ u5).setCell ⟨g, o + 6, none⟩ u6).setCell ⟨g, o + 7, none⟩ u7).setCell ⟨g, o + 8, none⟩ u8).setCell ⟨g, o + 9, none⟩ u9).setCell ⟨g, o + 10, none⟩ u10) :=
  ((((((((((h.set _ _).set _ _).set _ _).set _ _).set _ _).set _ _).set _ _).set _ _).set _ _).set _ _).set _ _
end Go.Proofs.Ytcdaghlbfclpkaa

/- A node more: add. -/
import Derived.Test.YtcdaghlbfclpkaaAi
namespace Go.Proofs.Ytcdaghlbfclpkaa
open Go.RowKit

/-- The node that is added. -/
def Nd.as (d : Nd) (n : Nat) (av : Value) : Nd := ⟨(n : Int), d.kind, d.space, d.name, d.text, av, d.al, d.sf, d.st, d.ef, d.et⟩
abbrev Added (S : Nat → Prop) (x n : Nat) (d : Nd) (N : List Nd) (P : List Sp) (E : List En) (w : World) (e : Ending) (w' : World) : Prop :=
  ∃ av, e = .returned (iv (n : Int)) ∧ Ar S w' x (N ++ [d.as n av]) (P ++ [⟨false, 0, 0, 0⟩]) (E ++ [⟨0, 0⟩]) ∧ Keep S w w'

set_option maxHeartbeats 1000000 in
theorem Mid.growN {S : Nat → Prop} {w : World} {x : Nat} {nv sv ev : Value} {N : List Nd} {P : List Sp} {E : List En} (h : Mid S w x nv sv ev N P E) {n : Nat} (hn : N.length = n) (hP : n ≤ 900000000) (d : Nd) {ao2 : Option Addr} {ac2 : Nat} (ha : Rw S w 53 2 (.slice ao2 d.al.length ac2) d.al.length (d.al.flatMap At.cells)) :
    ∃ g c W, (Builtin.append_ #[33, 33] 33 #[nv, .slice (some ⟨w.heap.size, 0, none⟩) 1 1]).run Try.prog (w.alloc (.cells #[Value.int IntKind.i64 0, Value.int IntKind.i64 0, Value.int IntKind.i64 0, Value.string { data := #[] }, Value.string { data := #[] }, Value.slice none 0 0, Value.int IntKind.i64 0, Value.int IntKind.i64 0, Value.int IntKind.i64 0, Value.int IntKind.i64 0, Value.slice none 0 0] 35)) = .ok (.slice (some ⟨g, 0, none⟩) (n + 1) c) W ∧ W.cell? ⟨x, 0, none⟩ = some nv ∧ W.frozen? ⟨x, 0, none⟩ = false ∧
      (W.cell? ⟨g, n * 11, none⟩ = some (iv 0) ∧ W.cell? ⟨g, n * 11 + 1, none⟩ = some (iv 0) ∧ W.cell? ⟨g, n * 11 + 2, none⟩ = some (iv 0) ∧ W.cell? ⟨g, n * 11 + 3, none⟩ = some (.string { data := #[] }) ∧ W.cell? ⟨g, n * 11 + 4, none⟩ = some (.string { data := #[] }) ∧ W.cell? ⟨g, n * 11 + 5, none⟩ = some (.slice none 0 0) ∧ W.cell? ⟨g, n * 11 + 6, none⟩ = some (iv 0) ∧ W.cell? ⟨g, n * 11 + 7, none⟩ = some (iv 0) ∧ W.cell? ⟨g, n * 11 + 8, none⟩ = some (iv 0) ∧ W.cell? ⟨g, n * 11 + 9, none⟩ = some (iv 0) ∧ W.cell? ⟨g, n * 11 + 10, none⟩ = some (.slice none 0 0)) ∧ (∀ j, W.frozen? ⟨g, j, none⟩ = false) ∧ x ≠ g ∧
      (Mid S ((((((((((((W.setCell ⟨g, n * 11, none⟩ (iv (n : Int))).setCell ⟨g, n * 11 + 1, none⟩ (iv d.kind)).setCell ⟨g, n * 11 + 2, none⟩ (iv d.space)).setCell ⟨g, n * 11 + 3, none⟩ (.string d.name)).setCell ⟨g, n * 11 + 4, none⟩ (.string d.text)).setCell ⟨g, n * 11 + 5, none⟩ (.slice ao2 d.al.length ac2)).setCell ⟨g, n * 11 + 6, none⟩ (iv d.sf)).setCell ⟨g, n * 11 + 7, none⟩ (iv d.st)).setCell ⟨g, n * 11 + 8, none⟩ (iv d.ef)).setCell ⟨g, n * 11 + 9, none⟩ (iv d.et)).setCell ⟨g, n * 11 + 10, none⟩ (.slice none 0 0)).setCell ⟨x, 0, none⟩ (.slice (some ⟨g, 0, none⟩) (n + 1) c)) x (.slice (some ⟨g, 0, none⟩) (n + 1) c) sv ev (N ++ [d.as n (.slice ao2 d.al.length ac2)]) P E ∧ Keep S w ((((((((((((W.setCell ⟨g, n * 11, none⟩ (iv (n : Int))).setCell ⟨g, n * 11 + 1, none⟩ (iv d.kind)).setCell ⟨g, n * 11 + 2, none⟩ (iv d.space)).setCell ⟨g, n * 11 + 3, none⟩ (.string d.name)).setCell ⟨g, n * 11 + 4, none⟩ (.string d.text)).setCell ⟨g, n * 11 + 5, none⟩ (.slice ao2 d.al.length ac2)).setCell ⟨g, n * 11 + 6, none⟩ (iv d.sf)).setCell ⟨g, n * 11 + 7, none⟩ (iv d.st)).setCell ⟨g, n * 11 + 8, none⟩ (iv d.ef)).setCell ⟨g, n * 11 + 9, none⟩ (iv d.et)).setCell ⟨g, n * 11 + 10, none⟩ (.slice none 0 0)).setCell ⟨x, 0, none⟩ (.slice (some ⟨g, 0, none⟩) (n + 1) c))) ∧
      (Mid S ((((((((((((W.setCell ⟨x, 0, none⟩ (.slice (some ⟨g, 0, none⟩) (n + 1) c)).setCell ⟨g, n * 11, none⟩ (iv (n : Int))).setCell ⟨g, n * 11 + 1, none⟩ (iv d.kind)).setCell ⟨g, n * 11 + 2, none⟩ (iv d.space)).setCell ⟨g, n * 11 + 3, none⟩ (.string d.name)).setCell ⟨g, n * 11 + 4, none⟩ (.string d.text)).setCell ⟨g, n * 11 + 5, none⟩ (.slice ao2 d.al.length ac2)).setCell ⟨g, n * 11 + 6, none⟩ (iv d.sf)).setCell ⟨g, n * 11 + 7, none⟩ (iv d.st)).setCell ⟨g, n * 11 + 8, none⟩ (iv d.ef)).setCell ⟨g, n * 11 + 9, none⟩ (iv d.et)).setCell ⟨g, n * 11 + 10, none⟩ (.slice none 0 0)) x (.slice (some ⟨g, 0, none⟩) (n + 1) c) sv ev (N ++ [d.as n (.slice ao2 d.al.length ac2)]) P E ∧ Keep S w ((((((((((((W.setCell ⟨x, 0, none⟩ (.slice (some ⟨g, 0, none⟩) (n + 1) c)).setCell ⟨g, n * 11, none⟩ (iv (n : Int))).setCell ⟨g, n * 11 + 1, none⟩ (iv d.kind)).setCell ⟨g, n * 11 + 2, none⟩ (iv d.space)).setCell ⟨g, n * 11 + 3, none⟩ (.string d.name)).setCell ⟨g, n * 11 + 4, none⟩ (.string d.text)).setCell ⟨g, n * 11 + 5, none⟩ (.slice ao2 d.al.length ac2)).setCell ⟨g, n * 11 + 6, none⟩ (iv d.sf)).setCell ⟨g, n * 11 + 7, none⟩ (iv d.st)).setCell ⟨g, n * 11 + 8, none⟩ (iv d.ef)).setCell ⟨g, n * 11 + 9, none⟩ (iv d.et)).setCell ⟨g, n * 11 + 10, none⟩ (.slice none 0 0))) ∧ Below w.heap.size w (w.alloc (.cells #[Value.int IntKind.i64 0, Value.int IntKind.i64 0, Value.int IntKind.i64 0, Value.string { data := #[] }, Value.string { data := #[] }, Value.slice none 0 0, Value.int IntKind.i64 0, Value.int IntKind.i64 0, Value.int IntKind.i64 0, Value.int IntKind.i64 0, Value.slice none 0 0] 35)) ∧ (∀ k, k < w.heap.size → some k ≠ nv.ownBlock → W.heap[k]? = w.heap[k]?) ∧ (nv.ownBlock = some g ∨ w.heap.size ≤ g) := by
  have b1 : Below w.heap.size w (w.alloc (.cells #[Value.int IntKind.i64 0, Value.int IntKind.i64 0, Value.int IntKind.i64 0, Value.string { data := #[] }, Value.string { data := #[] }, Value.slice none 0 0, Value.int IntKind.i64 0, Value.int IntKind.i64 0, Value.int IntKind.i64 0, Value.int IntKind.i64 0, Value.slice none 0 0] 35)) := (Below.refl _ _).alloc (Nat.le_refl _) _
  obtain ⟨v', W, h1, h2, h3, h4⟩ := Rw.app (t := 33) (e := 35) (S := S) Try.underlying33 info35 rfl (by decide) (by decide) (h.nr.old b1) (fun k hk => Nat.lt_of_lt_of_le (h.low k hk) b1.size) w.heap.size 0 1 1 [Value.int IntKind.i64 0, Value.int IntKind.i64 0, Value.int IntKind.i64 0, Value.string { data := #[] }, Value.string { data := #[] }, Value.slice none 0 0, Value.int IntKind.i64 0, Value.int IntKind.i64 0, Value.int IntKind.i64 0, Value.int IntKind.i64 0, Value.slice none 0 0] rfl
    (fun j u hj => by rw [Nat.zero_add, World.cell?_alloc_at _ _ _ _ rfl, ← hj]; simp) (by intro u hu; simp only [List.mem_cons, List.not_mem_nil, or_false] at hu; rcases hu with rfl | rfl | rfl | rfl | rfl | rfl | rfl | rfl | rfl | rfl | rfl <;> rfl) (by omega)
  obtain ⟨g, c, cur, rfl, hgS, _, hgb, _⟩ := h2.form (by omega)
  rw [hn] at h1 h2
  have hgr : w.grownBy W nv.ownBlock := ⟨h3.os.trans b1.os, h3.tape.trans b1.tape, h3.output.trans b1.output, Nat.le_trans b1.size h3.size, fun k hk hne => (h3.block k (Nat.lt_of_lt_of_le hk b1.size) hne).trans (b1.block k hk)⟩
  have hxr : some x ≠ nv.ownBlock := fun q => by
    obtain ⟨_, c', h5⟩ := own_blk h.nr.own q.symm
    rw [h.blk] at h5
    simp at h5
  have hx1 : W.heap[x]? = some (.cells #[nv, sv, ev] 65 (0, 0)) := (hgr.block x h.lt hxr).trans h.blk
  have hxg : x ≠ g := fun q => by rw [q, hgb] at hx1; simp at hx1
  have hlen : (N.flatMap Nd.cells).length = n * 11 := by rw [fl_len Nd.cells 11 (fun _ => rfl), hn]
  have hcell : ∀ (j : Nat) (u : Value), [Value.int IntKind.i64 0, Value.int IntKind.i64 0, Value.int IntKind.i64 0, Value.string { data := #[] }, Value.string { data := #[] }, Value.slice none 0 0, Value.int IntKind.i64 0, Value.int IntKind.i64 0, Value.int IntKind.i64 0, Value.int IntKind.i64 0, Value.slice none 0 0][j]? = some u → W.cell? ⟨g, n * 11 + j, none⟩ = some u := fun j u hj => h2.cell (by rw [List.getElem?_append_right (by omega), hlen, Nat.add_sub_cancel_left]; exact hj)
  have hnd : (N ++ [d.as n (.slice ao2 d.al.length ac2)]).flatMap Nd.cells = N.flatMap Nd.cells ++ [(iv (n : Int)), (iv d.kind), (iv d.space), (.string d.name), (.string d.text), (.slice ao2 d.al.length ac2), (iv d.sf), (iv d.st), (iv d.ef), (iv d.et), (.slice none 0 0)] := by rw [List.flatMap_append]; rfl
  have hnl : (N ++ [d.as n (.slice ao2 d.al.length ac2)]).length = n + 1 := by rw [List.length_append, hn]; rfl
  have hf : ∀ j, W.frozen? ⟨g, j, none⟩ = false := fun j => World.ownsRow.frozenAt h2.own _
  have hg' : nv.ownBlock = some g ∨ w.heap.size ≤ g := by
    rcases h4 with q | q
    · exact .inl (q ▸ rfl)
    · right
      have hs : (w.alloc (.cells #[Value.int IntKind.i64 0, Value.int IntKind.i64 0, Value.int IntKind.i64 0, Value.string { data := #[] }, Value.string { data := #[] }, Value.slice none 0 0, Value.int IntKind.i64 0, Value.int IntKind.i64 0, Value.int IntKind.i64 0, Value.int IntKind.i64 0, Value.slice none 0 0] 35)).heap.size = w.heap.size + 1 := by simp
      simp [Value.ownBlock] at q
      omega
  have fin : ∀ W' : World, Sm W W' → (∀ k, k ≠ x → k ≠ g → W'.heap[k]? = W.heap[k]?) → W'.heap[x]? = some (.cells #[.slice (some ⟨g, 0, none⟩) (n + 1) c, sv, ev] 65 (0, 0)) → Rw S W' 35 11 (.slice (some ⟨g, 0, none⟩) (n + 1) c) (n + 1) (N.flatMap Nd.cells ++ [(iv (n : Int)), (iv d.kind), (iv d.space), (.string d.name), (.string d.text), (.slice ao2 d.al.length ac2), (iv d.sf), (iv d.st), (iv d.ef), (iv d.et), (.slice none 0 0)]) →
      Mid S W' x (.slice (some ⟨g, 0, none⟩) (n + 1) c) sv ev (N ++ [d.as n (.slice ao2 d.al.length ac2)]) P E ∧ Keep S w W' := fun W' z z5 z6 z7 => by
    have hk : ∀ k, k < w.heap.size → k ≠ x → some k ≠ nv.ownBlock → W'.heap[k]? = w.heap[k]? := fun k q1 q2 q3 => (z5 k q2 (fun e => by
      rcases hg' with q | q
      · exact q3 (by rw [q, e])
      · omega)).trans (hgr.block k q1 q3)
    have p1 : ∀ {e s n : Nat} {v : Value} {xs : List Value}, Rw S w e s v n xs → 65 ≠ e → 35 ≠ e → Rw S W' e s v n xs := fun hq he ht => hq.pass hk h.blk he h.nr ht
    refine ⟨⟨fun k hk => Nat.lt_of_lt_of_le (h.low k hk) (Nat.le_trans hgr.size z.size), h.hx, z6, by rw [hnl, hnd]; exact z7, p1 h.sr (by decide) (by decide), p1 h.er (by decide) (by decide), fun q hq => ?_⟩, ⟨z.os.trans hgr.os, z.tape.trans hgr.tape, z.output.trans hgr.output, Nat.le_trans hgr.size z.size, fun k hk1 hk2 => hk k hk2 (fun e => h.hx (e ▸ hk1)) (fun e => h.nr.out k e.symm hk1)⟩⟩
    rcases List.mem_append.1 hq with hq | hq
    · exact p1 (h.ats q hq) (by decide) (by decide)
    · simp at hq
      subst hq
      exact p1 ha (by decide) (by decide)
  refine ⟨g, c, W, h1, by simp [World.cell?, hx1], frozen_of_row W x 0 _ 65 hx1, ⟨hcell 0 _ rfl, hcell 1 _ rfl, hcell 2 _ rfl, hcell 3 _ rfl, hcell 4 _ rfl, hcell 5 _ rfl, hcell 6 _ rfl, hcell 7 _ rfl, hcell 8 _ rfl, hcell 9 _ rfl, hcell 10 _ rfl⟩, hf, hxg, ?_, ?_, b1, hgr.block, hg'⟩
  · refine fin _ ((put11_same (Sm.refl W) g (n * 11) _ _ _ _ _ _ _ _ _ _ _).set _ _) (fun k q1 q2 => (heap_setCell_other _ ⟨x, 0, none⟩ k _ q1).trans (put11_other W g (n * 11) _ _ _ _ _ _ _ _ _ _ _ k q2)) ?_ ?_
    · exact heap_setCell_same _ x 0 _ 65 _ ((put11_other W g (n * 11) _ _ _ _ _ _ _ _ _ _ _ x hxg).trans hx1)
    · exact (h2.put11 hlen _ _ _ _ _ _ _ _ _ _ _).mv fun k hk => by
        simp [Value.ownBlock] at hk
        subst hk
        exact heap_setCell_other _ ⟨x, 0, none⟩ g _ (fun e => hxg e.symm)
  · refine fin _ (put11_same ((Sm.refl W).set _ _) g (n * 11) _ _ _ _ _ _ _ _ _ _ _) (fun k q1 q2 => (put11_other _ g (n * 11) _ _ _ _ _ _ _ _ _ _ _ k q2).trans (heap_setCell_other _ ⟨x, 0, none⟩ k _ q1)) ?_ ?_
    · exact (put11_other _ g (n * 11) _ _ _ _ _ _ _ _ _ _ _ x hxg).trans (heap_setCell_same _ x 0 _ 65 _ hx1)
    · exact (h2.mv (w' := W.setCell ⟨x, 0, none⟩ (.slice (some ⟨g, 0, none⟩) (n + 1) c)) (fun k hk => by
        simp [Value.ownBlock] at hk
        subst hk
        exact heap_setCell_other _ ⟨x, 0, none⟩ g _ (fun e => hxg e.symm))).put11 hlen _ _ _ _ _ _ _ _ _ _ _
end Go.Proofs.Ytcdaghlbfclpkaa

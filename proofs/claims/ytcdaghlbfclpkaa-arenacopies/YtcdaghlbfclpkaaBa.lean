/- A node's kids laid behind one another: the row of kids in the making. -/
import Derived.Test.YtcdaghlbfclpkaaAt
import Derived.Test.YtcdaghlbfclpkaaAu
import Derived.Test.YtcdaghlbfclpkaaAi
namespace Go.Proofs.Ytcdaghlbfclpkaa
open Go.RowKit

abbrev zer : List Value := [Value.int IntKind.i64 0, Value.int IntKind.i64 0, Value.int IntKind.i64 0, Value.string { data := #[] }, Value.string { data := #[] }, Value.slice none 0 0, Value.int IntKind.i64 0, Value.int IntKind.i64 0, Value.int IntKind.i64 0, Value.int IntKind.i64 0, Value.slice none 0 0]
/-- While a node's kids are gathered: all that was there stands but for one cell of block b, which holds the row of kids. -/
structure KR (w1 wr : World) (b o : Nat) (cur : Array Value) (M : List Nd) (v : Value) : Prop where
  sm : Sm w1 wr
  oth : ∀ k, k < w1.heap.size → k ≠ b → wr.heap[k]? = w1.heap[k]?
  blk : wr.heap[b]? = some (.cells (cur.setIfInBounds o v) 35 (0, 0))
  was : w1.heap[b]? = some (.cells cur 35 (0, 0))
  ho : o < cur.size
  row : Rw (fun k => k < w1.heap.size) wr 35 11 v M.length (M.flatMap Nd.cells)
  ats : ∀ d ∈ M, Rw (fun k => k < w1.heap.size) wr 53 2 d.av d.al.length (d.al.flatMap At.cells)
theorem KR.hb {w1 wr : World} {b o : Nat} {cur : Array Value} {M : List Nd} {v : Value} (h : KR w1 wr b o cur M v) : b < w1.heap.size := (Array.getElem?_eq_some_iff.1 h.was).1
theorem KR.old {w1 wr w' : World} {b o : Nat} {cur : Array Value} {M : List Nd} {v : Value} (h : KR w1 wr b o cur M v) (k : Below wr.heap.size wr w') : KR w1 w' b o cur M v :=
  ⟨⟨k.os.trans h.sm.os, k.tape.trans h.sm.tape, k.output.trans h.sm.output, Nat.le_trans h.sm.size k.size⟩, fun i hi hn => (k.block i (Nat.lt_of_lt_of_le hi h.sm.size)).trans (h.oth i hi hn), (k.block b (Nat.lt_of_lt_of_le h.hb h.sm.size)).trans h.blk, h.was, h.ho, h.row.old k, fun d hd => (h.ats d hd).old k⟩
theorem KR.start {w1 : World} {b o : Nat} {cur : Array Value} (h : w1.heap[b]? = some (.cells cur 35 (0, 0))) (hc : cur[o]? = some (.slice none 0 0)) : KR w1 w1 b o cur [] (.slice none 0 0) := by
  have ho := (Array.getElem?_eq_some_iff.1 hc).1
  have hs : cur.setIfInBounds o (.slice none 0 0) = cur := by
    apply Array.ext_getElem?
    intro i
    rw [Array.getElem?_setIfInBounds]
    by_cases e : o = i
    · subst e
      simp [ho]
      exact (Array.getElem?_eq_some_iff.1 hc).2.symm
    · simp [e]
  exact ⟨Sm.refl _, fun _ _ _ => rfl, by rw [hs]; exact h, h, ho, Rw.nil _ _ _ _, fun d hd => by simp at hd⟩
theorem KR.cell {w1 wr : World} {b o : Nat} {cur : Array Value} {M : List Nd} {v : Value} (h : KR w1 wr b o cur M v) : wr.cell? ⟨b, o, none⟩ = some v := by
  have := h.ho
  simp [World.cell?, h.blk, this]
theorem KR.cells {w1 wr : World} {b o : Nat} {cur : Array Value} {M : List Nd} {v : Value} (h : KR w1 wr b o cur M v) (j : Nat) (hj : j ≠ o) : wr.cell? ⟨b, j, none⟩ = cur[j]? := by
  have e : ¬ o = j := fun e => hj e.symm
  simp [World.cell?, h.blk, e]
/-- A kid more, in whichever order it is stored. -/
abbrev AppF (w1 : World) (b o : Nat) (cur : Array Value) (M : List Nd) (n : Nat) (d : Nd) (v : Value) (W2 : World) (tb : Nat) (ao : Option Addr) (ac : Nat) : Prop :=
    ∃ g c W, (Builtin.append_ #[33, 33] 33 #[v, .slice (some ⟨tb, 0, none⟩) 1 1]).run Try.prog W2 = .ok (.slice (some ⟨g, 0, none⟩) (n + 1) c) W ∧ W.cell? ⟨b, o, none⟩ = some v ∧ W.frozen? ⟨b, o, none⟩ = false ∧
      (W.cell? ⟨g, n * 11, none⟩ = some (iv 0) ∧ W.cell? ⟨g, n * 11 + 1, none⟩ = some (iv 0) ∧ W.cell? ⟨g, n * 11 + 2, none⟩ = some (iv 0) ∧ W.cell? ⟨g, n * 11 + 3, none⟩ = some (.string { data := #[] }) ∧ W.cell? ⟨g, n * 11 + 4, none⟩ = some (.string { data := #[] }) ∧ W.cell? ⟨g, n * 11 + 5, none⟩ = some (.slice none 0 0) ∧ W.cell? ⟨g, n * 11 + 6, none⟩ = some (iv 0) ∧ W.cell? ⟨g, n * 11 + 7, none⟩ = some (iv 0) ∧ W.cell? ⟨g, n * 11 + 8, none⟩ = some (iv 0) ∧ W.cell? ⟨g, n * 11 + 9, none⟩ = some (iv 0) ∧ W.cell? ⟨g, n * 11 + 10, none⟩ = some (.slice none 0 0)) ∧ (∀ j, W.frozen? ⟨g, j, none⟩ = false) ∧ b ≠ g ∧
      KR w1 ((((((((((((W.setCell ⟨g, n * 11, none⟩ (iv d.id)).setCell ⟨g, n * 11 + 1, none⟩ (iv d.kind)).setCell ⟨g, n * 11 + 2, none⟩ (iv d.space)).setCell ⟨g, n * 11 + 3, none⟩ (.string d.name)).setCell ⟨g, n * 11 + 4, none⟩ (.string d.text)).setCell ⟨g, n * 11 + 5, none⟩ (.slice ao d.al.length ac)).setCell ⟨g, n * 11 + 6, none⟩ (iv d.sf)).setCell ⟨g, n * 11 + 7, none⟩ (iv d.st)).setCell ⟨g, n * 11 + 8, none⟩ (iv d.ef)).setCell ⟨g, n * 11 + 9, none⟩ (iv d.et)).setCell ⟨g, n * 11 + 10, none⟩ (.slice none 0 0)).setCell ⟨b, o, none⟩ (.slice (some ⟨g, 0, none⟩) (n + 1) c)) b o cur (M ++ [{ d with av := .slice ao d.al.length ac }]) (.slice (some ⟨g, 0, none⟩) (n + 1) c) ∧
      KR w1 ((((((((((((W.setCell ⟨b, o, none⟩ (.slice (some ⟨g, 0, none⟩) (n + 1) c)).setCell ⟨g, n * 11, none⟩ (iv d.id)).setCell ⟨g, n * 11 + 1, none⟩ (iv d.kind)).setCell ⟨g, n * 11 + 2, none⟩ (iv d.space)).setCell ⟨g, n * 11 + 3, none⟩ (.string d.name)).setCell ⟨g, n * 11 + 4, none⟩ (.string d.text)).setCell ⟨g, n * 11 + 5, none⟩ (.slice ao d.al.length ac)).setCell ⟨g, n * 11 + 6, none⟩ (iv d.sf)).setCell ⟨g, n * 11 + 7, none⟩ (iv d.st)).setCell ⟨g, n * 11 + 8, none⟩ (iv d.ef)).setCell ⟨g, n * 11 + 9, none⟩ (iv d.et)).setCell ⟨g, n * 11 + 10, none⟩ (.slice none 0 0)) b o cur (M ++ [{ d with av := .slice ao d.al.length ac }]) (.slice (some ⟨g, 0, none⟩) (n + 1) c)
theorem KR.below {B : Nat} {w0 w1 wr : World} {b o : Nat} {cur : Array Value} {M : List Nd} {v : Value} (h : KR w1 wr b o cur M v) (k : Below B w0 w1) (hB : B ≤ b) (hs : B ≤ w0.heap.size) : Below B w0 wr :=
  k.trans ⟨h.sm.os, h.sm.tape, h.sm.output, h.sm.size, fun i hi => h.oth i (by have := k.size; omega) (by omega)⟩
set_option maxHeartbeats 1000000 in
theorem KR.app {w1 wr : World} {b o : Nat} {cur : Array Value} {M : List Nd} {v : Value} (h : KR w1 wr b o cur M v) {n : Nat} (hn : M.length = n) (hP : n ≤ 1000000000) {W2 : World} (b2 : Below wr.heap.size wr W2) (tb : Nat) (hz : ∀ j u, zer[j]? = some u → W2.cell? ⟨tb, j, none⟩ = some u) (d : Nd) {ao : Option Addr} {ac : Nat} (ha : Rw (fun k => k < w1.heap.size) W2 53 2 (.slice ao d.al.length ac) d.al.length (d.al.flatMap At.cells)) :
    AppF w1 b o cur M n d v W2 tb ao ac := by
  have h' := h.old b2
  have hlow : ∀ k, k < w1.heap.size → k < W2.heap.size := fun k hk => Nat.lt_of_lt_of_le hk h'.sm.size
  obtain ⟨v', W, h1, h2, h3, h4⟩ := Rw.app (t := 33) (e := 35) (S := fun k => k < w1.heap.size) Try.underlying33 info35 rfl (by decide) (by decide) h'.row hlow tb 0 1 1 zer rfl
    (fun j u hj => by rw [Nat.zero_add]; exact hz j u hj) (by intro u hu; simp only [zer, List.mem_cons, List.not_mem_nil, or_false] at hu; rcases hu with rfl | rfl | rfl | rfl | rfl | rfl | rfl | rfl | rfl | rfl | rfl <;> rfl) (by omega)
  obtain ⟨g, c, cg, rfl, hgS, _, hgb, _⟩ := h2.form (by omega)
  rw [hn] at h1 h2
  have hv : ∀ k, k < w1.heap.size → some k ≠ v.ownBlock := fun k hk e => h'.row.out k e.symm hk
  have hold : ∀ k, k < w1.heap.size → W.heap[k]? = W2.heap[k]? := fun k hk => h3.block k (hlow k hk) (hv k hk)
  have hbg : b ≠ g := fun e => hgS (e ▸ h.hb)
  have hbW : W.heap[b]? = some (.cells (cur.setIfInBounds o v) 35 (0, 0)) := (hold b h.hb).trans h'.blk
  have hlen : (M.flatMap Nd.cells).length = n * 11 := by rw [fl_len Nd.cells 11 (fun _ => rfl), hn]
  have hcell : ∀ (j : Nat) (u : Value), zer[j]? = some u → W.cell? ⟨g, n * 11 + j, none⟩ = some u := fun j u hj => h2.cell (by rw [List.getElem?_append_right (by omega), hlen, Nat.add_sub_cancel_left]; exact hj)
  have hnd : (M ++ [{ d with av := .slice ao d.al.length ac }]).flatMap Nd.cells = M.flatMap Nd.cells ++ [(iv d.id), (iv d.kind), (iv d.space), (.string d.name), (.string d.text), (.slice ao d.al.length ac), (iv d.sf), (iv d.st), (iv d.ef), (iv d.et), (.slice none 0 0)] := by rw [List.flatMap_append]; rfl
  have hnl : (M ++ [{ d with av := .slice ao d.al.length ac }]).length = n + 1 := by rw [List.length_append, hn]; rfl
  have hf : ∀ j, W.frozen? ⟨g, j, none⟩ = false := fun j => World.ownsRow.frozenAt h2.own _
  have hset : (cur.setIfInBounds o v).setIfInBounds o (.slice (some ⟨g, 0, none⟩) (n + 1) c) = cur.setIfInBounds o (.slice (some ⟨g, 0, none⟩) (n + 1) c) := by simp
  have ats : ∀ {m : Nat} {u : Value} {xs : List Value}, Rw (fun k => k < w1.heap.size) W2 53 2 u m xs → ∀ W' : World, (∀ k, k ≠ b → k ≠ g → W'.heap[k]? = W.heap[k]?) → Rw (fun k => k < w1.heap.size) W' 53 2 u m xs := fun hq W' hk => hq.mv fun k hk1 => by
    obtain ⟨q1, q2, q3⟩ := own_blk hq.own hk1
    have e1 : k ≠ b := fun e => by rw [e, h'.blk] at q3; simp at q3
    have e0 : some k ≠ v.ownBlock := fun e => by
      obtain ⟨_, c', p⟩ := own_blk h'.row.own e.symm
      rw [q3] at p
      simp at p
    have e3 := h3.block k q1 e0
    refine (hk k e1 (fun e => ?_)).trans e3
    rw [← e, e3, q3] at hgb
    simp at hgb
  have fin : ∀ W' : World, Sm W W' → (∀ k, k ≠ b → k ≠ g → W'.heap[k]? = W.heap[k]?) → W'.heap[b]? = some (.cells (cur.setIfInBounds o (.slice (some ⟨g, 0, none⟩) (n + 1) c)) 35 (0, 0)) → Rw (fun k => k < w1.heap.size) W' 35 11 (.slice (some ⟨g, 0, none⟩) (n + 1) c) (n + 1) (M.flatMap Nd.cells ++ [(iv d.id), (iv d.kind), (iv d.space), (.string d.name), (.string d.text), (.slice ao d.al.length ac), (iv d.sf), (iv d.st), (iv d.ef), (iv d.et), (.slice none 0 0)]) →
      KR w1 W' b o cur (M ++ [{ d with av := .slice ao d.al.length ac }]) (.slice (some ⟨g, 0, none⟩) (n + 1) c) := fun W' z z5 z6 z7 => by
    refine ⟨⟨z.os.trans (h3.os.trans h'.sm.os), z.tape.trans (h3.tape.trans h'.sm.tape), z.output.trans (h3.output.trans h'.sm.output), Nat.le_trans h'.sm.size (Nat.le_trans h3.size z.size)⟩, fun k hk hkb => (z5 k hkb (fun e => hgS (e ▸ hk))).trans ((hold k hk).trans (h'.oth k hk hkb)), z6, h.was, h.ho, by rw [hnl, hnd]; exact z7, fun q hq => ?_⟩
    rcases List.mem_append.1 hq with hq | hq
    · exact ats (h'.ats q hq) W' z5
    · simp at hq
      subst hq
      exact ats ha W' z5
  refine ⟨g, c, W, h1, ?_, frozen_of_row W b o _ 35 hbW, ⟨hcell 0 _ rfl, hcell 1 _ rfl, hcell 2 _ rfl, hcell 3 _ rfl, hcell 4 _ rfl, hcell 5 _ rfl, hcell 6 _ rfl, hcell 7 _ rfl, hcell 8 _ rfl, hcell 9 _ rfl, hcell 10 _ rfl⟩, hf, hbg, ?_, ?_⟩
  · have := h.ho
    simp [World.cell?, hbW, this]
  · refine fin _ ((put11_same (Sm.refl W) g (n * 11) _ _ _ _ _ _ _ _ _ _ _).set _ _) (fun k q1 q2 => (heap_setCell_other _ ⟨b, o, none⟩ k _ q1).trans (put11_other W g (n * 11) _ _ _ _ _ _ _ _ _ _ _ k q2)) ?_ ?_
    · rw [← hset]
      exact heap_setCell_same _ b o _ 35 _ ((put11_other W g (n * 11) _ _ _ _ _ _ _ _ _ _ _ b hbg).trans hbW)
    · exact (h2.put11 hlen _ _ _ _ _ _ _ _ _ _ _).mv fun k hk => by
        simp [Value.ownBlock] at hk
        subst hk
        exact heap_setCell_other _ ⟨b, o, none⟩ g _ (fun e => hbg e.symm)
  · refine fin _ (put11_same ((Sm.refl W).set _ _) g (n * 11) _ _ _ _ _ _ _ _ _ _ _) (fun k q1 q2 => (put11_other _ g (n * 11) _ _ _ _ _ _ _ _ _ _ _ k q2).trans (heap_setCell_other _ ⟨b, o, none⟩ k _ q1)) ?_ ?_
    · rw [← hset]
      exact (put11_other _ g (n * 11) _ _ _ _ _ _ _ _ _ _ _ b hbg).trans (heap_setCell_same _ b o _ 35 _ hbW)
    · exact (h2.mv (w' := W.setCell ⟨b, o, none⟩ (.slice (some ⟨g, 0, none⟩) (n + 1) c)) (fun k hk => by
        simp [Value.ownBlock] at hk
        subst hk
        exact heap_setCell_other _ ⟨b, o, none⟩ g _ (fun e => hbg e.symm))).put11 hlen _ _ _ _ _ _ _ _ _ _ _
end Go.Proofs.Ytcdaghlbfclpkaa

/- copied: what is being made, laid anew. -/
import Derived.Test.YtjjfalbngcbfaaaGreatDoorVa
namespace Go.Proofs.YtjjfalbngcbfaaaGreatDoor
open Go.RowKit Go.Maps

/-- One row more, in memory that is new. -/
theorem Bag.snoc {S : Nat → Prop} {w w' : World} {l : List Rw} (h : Bag S w l) (hS : ∀ k, S k → k < w.heap.size) (b : Below w.heap.size w w') {r : Rw} (ho : r.own w') (hn : ∀ g, r.v.ownBlock = some g → w.heap.size ≤ g) : Bag S w' (l ++ [r]) := by
  have h2 := h.below b
  have hat : ∀ i x, (l ++ [r])[i]? = some x → l[i]? = some x ∨ (i = l.length ∧ x = r) := fun i x hx => by
    by_cases hi : i < l.length
    · rw [List.getElem?_append_left hi] at hx
      exact .inl hx
    · rw [List.getElem?_append_right (by omega)] at hx
      have hil := (List.getElem?_eq_some_iff.1 hx).1
      simp at hil
      have e0 : i - l.length = 0 := by omega
      rw [e0] at hx
      simp at hx
      exact .inr ⟨by omega, hx.symm⟩
  refine ⟨fun i x hx => ?_, fun i x hx g hg hk => ?_, fun i j x y hne hx hy g hg hg2 => ?_⟩
  · rcases hat i x hx with h3 | ⟨_, rfl⟩
    · exact h2.own i x h3
    · exact ho
  · rcases hat i x hx with h3 | ⟨_, rfl⟩
    · exact h2.out i x h3 g hg hk
    · have := hS g hk
      have := hn g hg
      omega
  · rcases hat i x hx with h3 | ⟨e3, rfl⟩
    · rcases hat j y hy with h4 | ⟨_, rfl⟩
      · exact h2.apart i j x y hne h3 h4 g hg hg2
      · have := (own_blk (h.own i x h3) hg).1
        have := hn g hg2
        omega
    · rcases hat j y hy with h4 | ⟨e4, _⟩
      · have := (own_blk (h.own j y h4) hg2).1
        have := hn g hg
        omega
      · omega
theorem Bag.nil (S : Nat → Prop) (w : World) : Bag S w [] := ⟨fun i r h => (by simp at h), fun i r h => (by simp at h), fun i j a _ _ h => (by simp at h)⟩
theorem Bag.set {S : Nat → Prop} {w : World} {l : List Rw} (h : Bag S w l) {p : Addr} (hp : S p.block) (u : Value) : Bag S (w.setCell p u) l :=
  ⟨fun i r hr => own_mv (h.own i r hr) fun g hg => Below.heap_setCell _ _ _ _ fun e => h.out i r hr g hg (e ▸ hp), h.out, h.apart⟩
theorem names_set {S : Nat → Prop} {w : World} {L : List At} {v : Value} (h : Names S w L v) {p : Addr} (hp : S p.block) (u : Value) : Names S (w.setCell p u) L v :=
  h.mv (fun _ _ h => h) fun _ _ hb => Below.heap_setCell _ _ _ _ fun e => hb (e ▸ hp)
/-- What is being made, as a value. -/
def drV (m : Mc) (n t a mv an av : Value) : Array Value := #[.int .i64 m.kind, .int .i64 m.frm, n, t, .bool m.self, a, mv, .int .i64 m.at_, an, av, .bool m.cnt]

/-- What is being made, laid anew. -/
def Copied (m : Mc) (n1 t1 a1 p1 q1 : Nat) (w : World) (e : Ending) (w' : World) : Prop := ∃ n3 n4 t3 t4 a3 a4 mv3 p3 p4 q3 q4, e = .returned (.agg #[.int .i64 m.kind, .int .i64 m.frm, .slice n3 n1 n4, .slice t3 t1 t4, .bool m.self, .slice a3 a1 a4, .map mv3, .int .i64 m.at_, .slice p3 p1 p4, .slice q3 q1 q4, .bool m.cnt]) ∧
  Bag (fun k => k < w.heap.size + 2) w' [rwN (.slice n3 n1 n4) m.nm, rwB (.slice t3 t1 t4) m.tx, rwA (.slice a3 a1 a4) m.attrs, rwB (.slice p3 p1 p4) m.an, rwB (.slice q3 q1 q4) m.av] ∧ Names (fun k => k < w.heap.size + 2) w' m.attrs (.map mv3) ∧ (∀ b, mv3 = some b → ∀ (cur : Array Value) (e : TypeId) (z : Nat × Nat), w'.heap[b]? ≠ some (.cells cur e z)) ∧ Below w.heap.size w w'

theorem bytes_one (l : List UInt8) : ∀ u ∈ Lib.byteCells l, u.oneCell' = true := fun u hu => by
  simp only [Lib.byteCells, List.mem_map] at hu
  obtain ⟨b, _, rfl⟩ := hu
  rfl

set_option maxHeartbeats 8000000 in
set_option maxRecDepth 20000 in
theorem copied_any {Z : Nat → Prop} {S : Nat → Prop} {x : Nat} {m : Mc} {v : Vs} {T : List TL} {w : World} (h : MachV Z S x m v T w) (hn : m.tot ≤ 1000000000) {n0 t0 a0 p0 q0 : Option Addr} {n1 n2 t1 t2 a1 a2 p1 p2 q1 q2 : Nat} {mv : Option Nat} (en : v.n = .slice n0 n1 n2) (et : v.t = .slice t0 t1 t2) (ea : v.a = .slice a0 a1 a2) (em : v.m = .map mv) (ep : v.an = .slice p0 p1 p2) (eq : v.av = .slice q0 q1 q2) :
    Calls Tryz.prog 32 #[.agg #[.int .i64 m.kind, .int .i64 m.frm, .slice n0 n1 n2, .slice t0 t1 t2, .bool m.self, .slice a0 a1 a2, .map mv, .int .i64 m.at_, .slice p0 p1 p2, .slice q0 q1 q2, .bool m.cnt]] w (Copied m n1 t1 a1 p1 q1 w) := by
  have on : Rw.own w (rwN (.slice n0 n1 n2) m.nm) := by have := h.bag.own 2 _ rfl; rw [en] at this; exact this
  have ot : Rw.own w (rwB (.slice t0 t1 t2) m.tx) := by have := h.bag.own 3 _ rfl; rw [et] at this; exact this
  have oa : Rw.own w (rwA (.slice a0 a1 a2) m.attrs) := by have := h.bag.own 4 _ rfl; rw [ea] at this; exact this
  have op : Rw.own w (rwB (.slice p0 p1 p2) m.an) := by have := h.bag.own 5 _ rfl; rw [ep] at this; exact this
  have oq : Rw.own w (rwB (.slice q0 q1 q2) m.av) := by have := h.bag.own 6 _ rfl; rw [eq] at this; exact this
  have om : Names S w m.attrs (.map mv) := by have := h.names; rw [em] at this; exact this
  have lens : n1 = m.nm.length ∧ t1 = m.tx.length ∧ a1 = m.attrs.length ∧ p1 = m.an.length ∧ q1 = m.av.length := by
    refine ⟨?_, ?_, ?_, ?_, ?_⟩
    · obtain ⟨_, _, e, _⟩ := own_form on; simp only [Value.slice.injEq] at e; exact e.2.1
    · obtain ⟨_, _, e, _⟩ := own_form ot; simp only [Value.slice.injEq] at e; exact e.2.1
    · obtain ⟨_, _, e, _⟩ := own_form oa; simp only [Value.slice.injEq] at e; exact e.2.1
    · obtain ⟨_, _, e, _⟩ := own_form op; simp only [Value.slice.injEq] at e; exact e.2.1
    · obtain ⟨_, _, e, _⟩ := own_form oq; simp only [Value.slice.injEq] at e; exact e.2.1
  have HO : Hid (Rw.own w (rwN (.slice n0 n1 n2) m.nm) ∧ Rw.own w (rwB (.slice t0 t1 t2) m.tx) ∧ Rw.own w (rwA (.slice a0 a1 a2) m.attrs) ∧ Rw.own w (rwB (.slice p0 p1 p2) m.an) ∧ Rw.own w (rwB (.slice q0 q1 q2) m.av) ∧ Names S w m.attrs (.map mv) ∧ n1 = m.nm.length ∧ t1 = m.tx.length ∧ a1 = m.attrs.length ∧ p1 = m.an.length ∧ q1 = m.av.length ∧ m.tot ≤ 1000000000) := ⟨on, ot, oa, op, oq, om, lens.1, lens.2.1, lens.2.2.1, lens.2.2.2.1, lens.2.2.2.2, hn⟩
  obtain ⟨W0, hW0⟩ : ∃ W0, (w.alloc (.cells #[.int .i64 m.kind, .int .i64 m.frm, .slice n0 n1 n2, .slice t0 t1 t2, .bool m.self, .slice a0 a1 a2, .map mv, .int .i64 m.at_, .slice p0 p1 p2, .slice q0 q1 q2, .bool m.cnt] 72)).alloc (.cells #[.int .i64 0, .int .i64 0, .slice none 0 0, .slice none 0 0, .bool false, .slice none 0 0, .map none, .int .i64 0, .slice none 0 0, .slice none 0 0, .bool false] 72) = W0 := ⟨_, rfl⟩
  have bb1 : Below w.heap.size w (w.alloc (.cells #[.int .i64 m.kind, .int .i64 m.frm, .slice n0 n1 n2, .slice t0 t1 t2, .bool m.self, .slice a0 a1 a2, .map mv, .int .i64 m.at_, .slice p0 p1 p2, .slice q0 q1 q2, .bool m.cnt] 72)) := (Below.refl _ _).alloc (Nat.le_refl _) _
  have sz1 : (w.alloc (.cells #[.int .i64 m.kind, .int .i64 m.frm, .slice n0 n1 n2, .slice t0 t1 t2, .bool m.self, .slice a0 a1 a2, .map mv, .int .i64 m.at_, .slice p0 p1 p2, .slice q0 q1 q2, .bool m.cnt] 72)).heap.size = w.heap.size + 1 := by simp
  have bel0 : Below w.heap.size w W0 := by rw [← hW0]; exact bb1.trans (((Below.refl _ _).alloc (Nat.le_refl _) _).mono (by rw [sz1]; omega))
  have hB0 : W0.heap[w.heap.size]? = some (.cells #[.int .i64 m.kind, .int .i64 m.frm, .slice n0 n1 n2, .slice t0 t1 t2, .bool m.self, .slice a0 a1 a2, .map mv, .int .i64 m.at_, .slice p0 p1 p2, .slice q0 q1 q2, .bool m.cnt] 72 (0, 0)) := by
    rw [← hW0, Below.heap_alloc _ _ w.heap.size (by rw [sz1]; omega)]
    exact heap_alloc_new _ _
  have hC0 : W0.heap[w.heap.size + 1]? = some (.cells #[.int .i64 0, .int .i64 0, .slice none 0 0, .slice none 0 0, .bool false, .slice none 0 0, .map none, .int .i64 0, .slice none 0 0, .slice none 0 0, .bool false] 72 (0, 0)) := by
    rw [← hW0, ← sz1]
    exact heap_alloc_new _ _
  have sz0 : w.heap.size + 2 ≤ W0.heap.size := by rw [← hW0]; simp
  have K0 : Hid (Below w.heap.size w W0 ∧ Bag (fun k => k < w.heap.size + 2) W0 [] ∧ W0.heap[w.heap.size + 1]? = some (.cells #[.int .i64 0, .int .i64 0, .slice none 0 0, .slice none 0 0, .bool false, .slice none 0 0, .map none, .int .i64 0, .slice none 0 0, .slice none 0 0, .bool false] 72 (0, 0))) := ⟨bel0, Bag.nil _ _, hC0⟩
  clear h hn en et ea em ep eq on ot oa op oq om lens bb1 sz1 bel0 hC0
  go_enter Tryz.func32, Tryz.ntmps32
  have d2 : W0.cell? ⟨w.heap.size, 2, none⟩ = some (.slice n0 n1 n2) := by simp [World.cell?, hB0]
  have hx0 : w.heap.size < W0.heap.size := by omega
  go_wp2_with fail
  have kk0 : Calls Tryz.prog 55 #[.slice n0 n1 n2] W0 (Cloned 5 1 m.nm.length (Lib.byteCells m.nm) W0) := cloneB_any (own_mv HO.out.1 fun g hg => K0.out.1.block g (own_blk HO.out.1 hg).1) (bytes_one _) (by have := HO.out.2.2.2.2.2.2.2.2.2.2.2; unfold Mc.tot at this; omega)
  refine kk0.mono ?_
  rintro e V1 ⟨n3, n4, rfl, ho0, hb0⟩
  have el0 : m.nm.length = n1 := by have := HO.out; omega
  rw [el0] at ho0 ⊢
  have hBV0 : V1.heap[w.heap.size]? = some (.cells #[.int .i64 m.kind, .int .i64 m.frm, .slice n0 n1 n2, .slice t0 t1 t2, .bool m.self, .slice a0 a1 a2, .map mv, .int .i64 m.at_, .slice p0 p1 p2, .slice q0 q1 q2, .bool m.cnt] 72 (0, 0)) := (hb0.block _ hx0).trans hB0
  have sV0 : w.heap.size + 2 ≤ V1.heap.size := Nat.le_trans sz0 hb0.size
  have c0 : V1.cell? ⟨w.heap.size, 2, none⟩ = some (.slice n0 n1 n2) := by simp [World.cell?, hBV0]
  have f0 : V1.frozen? ⟨w.heap.size, 2, none⟩ = false := by simp [World.frozen?, hBV0]
  obtain ⟨W1, hW1⟩ : ∃ W1, V1.setCell ⟨w.heap.size, 2, none⟩ (.slice n3 n1 n4) = W1 := ⟨_, rfl⟩
  have hB1 : W1.heap[w.heap.size]? = some (.cells #[.int .i64 m.kind, .int .i64 m.frm, .slice n3 n1 n4, .slice t0 t1 t2, .bool m.self, .slice a0 a1 a2, .map mv, .int .i64 m.at_, .slice p0 p1 p2, .slice q0 q1 q2, .bool m.cnt] 72 (0, 0)) := by rw [← hW1]; simp [World.setCell, Array.getElem?_modify, hBV0]
  have sz1 : w.heap.size + 2 ≤ W1.heap.size := by rw [← hW1]; simpa [World.setCell] using sV0
  have bs0 : Below w.heap.size V1 W1 := by rw [← hW1]; exact ⟨rfl, rfl, rfl, by simp [World.setCell], fun k hk => Below.heap_setCell _ _ _ _ (fun e => by simp only at e; omega)⟩
  have OUT0 : ∀ g, (rwN (.slice n3 n1 n4) m.nm : Rw).v.ownBlock = some g → W0.heap.size ≤ g := fun g hg => by
    rcases ho0.2 with ⟨e, _⟩ | ⟨g', cap, cur, e, hB, _⟩
    · rw [show (rwN (.slice n3 n1 n4) m.nm : Rw).v = .slice n3 n1 n4 from rfl, e] at hg; simp [Value.ownBlock] at hg
    · rw [show (rwN (.slice n3 n1 n4) m.nm : Rw).v = .slice n3 n1 n4 from rfl, e] at hg; simp [Value.ownBlock] at hg; omega
  have K1 : Hid (Below w.heap.size w W1 ∧ Bag (fun k => k < w.heap.size + 2) W1 [rwN (.slice n3 n1 n4) m.nm] ∧ W1.heap[w.heap.size + 1]? = some (.cells #[.int .i64 0, .int .i64 0, .slice none 0 0, .slice none 0 0, .bool false, .slice none 0 0, .map none, .int .i64 0, .slice none 0 0, .slice none 0 0, .bool false] 72 (0, 0))) := by
    have hqb : Below w.heap.size w V1 := K0.out.1.trans (hb0.mono K0.out.1.size)
    refine ⟨hqb.trans bs0, ?_, ?_⟩
    · rw [← hW1]
      exact ((K0.out.2.1.snoc (fun k hk => by omega) hb0 (r := rwN (.slice n3 n1 n4) m.nm) (OwnQ.of (B := W0.heap.size) (by rw [← el0] at ho0; rw [← el0]; exact ho0)) OUT0).set (p := ⟨w.heap.size, 2, none⟩) (by show w.heap.size < _; omega) (.slice n3 n1 n4))
    · rw [← hW1, Below.heap_setCell _ _ _ _ (by simp), hb0.block _ (by have := sz0; omega)]
      exact K0.out.2.2
  clear kk0 ho0 hb0 hBV0 sV0 bs0 K0 hB0 d2 hx0 sz0 OUT0 el0
  have d3 : W1.cell? ⟨w.heap.size, 3, none⟩ = some (.slice t0 t1 t2) := by simp [World.cell?, hB1]
  have hx1 : w.heap.size < W1.heap.size := by omega
  go_wp2_with fail
  have kk1 : Calls Tryz.prog 55 #[.slice t0 t1 t2] W1 (Cloned 5 1 m.tx.length (Lib.byteCells m.tx) W1) := cloneB_any (own_mv HO.out.2.1 fun g hg => K1.out.1.block g (own_blk HO.out.2.1 hg).1) (bytes_one _) (by have := HO.out.2.2.2.2.2.2.2.2.2.2.2; unfold Mc.tot at this; omega)
  refine kk1.mono ?_
  rintro e V2 ⟨t3, t4, rfl, ho1, hb1⟩
  have el1 : m.tx.length = t1 := by have := HO.out; omega
  rw [el1] at ho1 ⊢
  have hBV1 : V2.heap[w.heap.size]? = some (.cells #[.int .i64 m.kind, .int .i64 m.frm, .slice n3 n1 n4, .slice t0 t1 t2, .bool m.self, .slice a0 a1 a2, .map mv, .int .i64 m.at_, .slice p0 p1 p2, .slice q0 q1 q2, .bool m.cnt] 72 (0, 0)) := (hb1.block _ hx1).trans hB1
  have sV1 : w.heap.size + 2 ≤ V2.heap.size := Nat.le_trans sz1 hb1.size
  have c1 : V2.cell? ⟨w.heap.size, 3, none⟩ = some (.slice t0 t1 t2) := by simp [World.cell?, hBV1]
  have f1 : V2.frozen? ⟨w.heap.size, 3, none⟩ = false := by simp [World.frozen?, hBV1]
  obtain ⟨W2, hW2⟩ : ∃ W2, V2.setCell ⟨w.heap.size, 3, none⟩ (.slice t3 t1 t4) = W2 := ⟨_, rfl⟩
  have hB2 : W2.heap[w.heap.size]? = some (.cells #[.int .i64 m.kind, .int .i64 m.frm, .slice n3 n1 n4, .slice t3 t1 t4, .bool m.self, .slice a0 a1 a2, .map mv, .int .i64 m.at_, .slice p0 p1 p2, .slice q0 q1 q2, .bool m.cnt] 72 (0, 0)) := by rw [← hW2]; simp [World.setCell, Array.getElem?_modify, hBV1]
  have sz2 : w.heap.size + 2 ≤ W2.heap.size := by rw [← hW2]; simpa [World.setCell] using sV1
  have bs1 : Below w.heap.size V2 W2 := by rw [← hW2]; exact ⟨rfl, rfl, rfl, by simp [World.setCell], fun k hk => Below.heap_setCell _ _ _ _ (fun e => by simp only at e; omega)⟩
  have OUT1 : ∀ g, (rwB (.slice t3 t1 t4) m.tx : Rw).v.ownBlock = some g → W1.heap.size ≤ g := fun g hg => by
    rcases ho1.2 with ⟨e, _⟩ | ⟨g', cap, cur, e, hB, _⟩
    · rw [show (rwB (.slice t3 t1 t4) m.tx : Rw).v = .slice t3 t1 t4 from rfl, e] at hg; simp [Value.ownBlock] at hg
    · rw [show (rwB (.slice t3 t1 t4) m.tx : Rw).v = .slice t3 t1 t4 from rfl, e] at hg; simp [Value.ownBlock] at hg; omega
  have K2 : Hid (Below w.heap.size w W2 ∧ Bag (fun k => k < w.heap.size + 2) W2 [rwN (.slice n3 n1 n4) m.nm, rwB (.slice t3 t1 t4) m.tx] ∧ W2.heap[w.heap.size + 1]? = some (.cells #[.int .i64 0, .int .i64 0, .slice none 0 0, .slice none 0 0, .bool false, .slice none 0 0, .map none, .int .i64 0, .slice none 0 0, .slice none 0 0, .bool false] 72 (0, 0))) := by
    have hqb : Below w.heap.size w V2 := K1.out.1.trans (hb1.mono K1.out.1.size)
    refine ⟨hqb.trans bs1, ?_, ?_⟩
    · rw [← hW2]
      exact ((K1.out.2.1.snoc (fun k hk => by omega) hb1 (r := rwB (.slice t3 t1 t4) m.tx) (OwnQ.of (B := W1.heap.size) (by rw [← el1] at ho1; rw [← el1]; exact ho1)) OUT1).set (p := ⟨w.heap.size, 3, none⟩) (by show w.heap.size < _; omega) (.slice t3 t1 t4))
    · rw [← hW2, Below.heap_setCell _ _ _ _ (by simp), hb1.block _ (by have := sz1; omega)]
      exact K1.out.2.2
  clear kk1 ho1 hb1 hBV1 sV1 bs1 K1 hB1 d3 hx1 sz1 OUT1 el1
  have d5 : W2.cell? ⟨w.heap.size, 5, none⟩ = some (.slice a0 a1 a2) := by simp [World.cell?, hB2]
  have hx2 : w.heap.size < W2.heap.size := by omega
  go_wp2_with fail
  have kk2 : Calls Tryz.prog 56 #[.slice a0 a1 a2] W2 (Cloned 49 2 m.attrs.length (m.attrs.flatMap G9.At.cells) W2) := cloneA_any (own_mv HO.out.2.2.1 fun g hg => K2.out.1.block g (own_blk HO.out.2.2.1 hg).1) (G9.cells_one _) (by have := HO.out.2.2.2.2.2.2.2.2.2.2.2; unfold Mc.tot at this; omega)
  refine kk2.mono ?_
  rintro e V3 ⟨a3, a4, rfl, ho2, hb2⟩
  have el2 : m.attrs.length = a1 := by have := HO.out; omega
  rw [el2] at ho2 ⊢
  have hBV2 : V3.heap[w.heap.size]? = some (.cells #[.int .i64 m.kind, .int .i64 m.frm, .slice n3 n1 n4, .slice t3 t1 t4, .bool m.self, .slice a0 a1 a2, .map mv, .int .i64 m.at_, .slice p0 p1 p2, .slice q0 q1 q2, .bool m.cnt] 72 (0, 0)) := (hb2.block _ hx2).trans hB2
  have sV2 : w.heap.size + 2 ≤ V3.heap.size := Nat.le_trans sz2 hb2.size
  have c2 : V3.cell? ⟨w.heap.size, 5, none⟩ = some (.slice a0 a1 a2) := by simp [World.cell?, hBV2]
  have f2 : V3.frozen? ⟨w.heap.size, 5, none⟩ = false := by simp [World.frozen?, hBV2]
  obtain ⟨W3, hW3⟩ : ∃ W3, V3.setCell ⟨w.heap.size, 5, none⟩ (.slice a3 a1 a4) = W3 := ⟨_, rfl⟩
  have hB3 : W3.heap[w.heap.size]? = some (.cells #[.int .i64 m.kind, .int .i64 m.frm, .slice n3 n1 n4, .slice t3 t1 t4, .bool m.self, .slice a3 a1 a4, .map mv, .int .i64 m.at_, .slice p0 p1 p2, .slice q0 q1 q2, .bool m.cnt] 72 (0, 0)) := by rw [← hW3]; simp [World.setCell, Array.getElem?_modify, hBV2]
  have sz3 : w.heap.size + 2 ≤ W3.heap.size := by rw [← hW3]; simpa [World.setCell] using sV2
  have bs2 : Below w.heap.size V3 W3 := by rw [← hW3]; exact ⟨rfl, rfl, rfl, by simp [World.setCell], fun k hk => Below.heap_setCell _ _ _ _ (fun e => by simp only at e; omega)⟩
  have OUT2 : ∀ g, (rwA (.slice a3 a1 a4) m.attrs : Rw).v.ownBlock = some g → W2.heap.size ≤ g := fun g hg => by
    rcases ho2.2 with ⟨e, _⟩ | ⟨g', cap, cur, e, hB, _⟩
    · rw [show (rwA (.slice a3 a1 a4) m.attrs : Rw).v = .slice a3 a1 a4 from rfl, e] at hg; simp [Value.ownBlock] at hg
    · rw [show (rwA (.slice a3 a1 a4) m.attrs : Rw).v = .slice a3 a1 a4 from rfl, e] at hg; simp [Value.ownBlock] at hg; omega
  have K3 : Hid (Below w.heap.size w W3 ∧ Bag (fun k => k < w.heap.size + 2) W3 [rwN (.slice n3 n1 n4) m.nm, rwB (.slice t3 t1 t4) m.tx, rwA (.slice a3 a1 a4) m.attrs] ∧ W3.heap[w.heap.size + 1]? = some (.cells #[.int .i64 0, .int .i64 0, .slice none 0 0, .slice none 0 0, .bool false, .slice none 0 0, .map none, .int .i64 0, .slice none 0 0, .slice none 0 0, .bool false] 72 (0, 0))) := by
    have hqb : Below w.heap.size w V3 := K2.out.1.trans (hb2.mono K2.out.1.size)
    refine ⟨hqb.trans bs2, ?_, ?_⟩
    · rw [← hW3]
      exact ((K2.out.2.1.snoc (fun k hk => by omega) hb2 (r := rwA (.slice a3 a1 a4) m.attrs) (OwnQ.of (B := W2.heap.size) (by rw [← el2] at ho2; rw [← el2]; exact ho2)) OUT2).set (p := ⟨w.heap.size, 5, none⟩) (by show w.heap.size < _; omega) (.slice a3 a1 a4))
    · rw [← hW3, Below.heap_setCell _ _ _ _ (by simp), hb2.block _ (by have := sz2; omega)]
      exact K2.out.2.2
  clear kk2 ho2 hb2 hBV2 sV2 bs2 K2 hB2 d5 hx2 sz2 OUT2 el2
  have d6 : W3.cell? ⟨w.heap.size, 6, none⟩ = some (.map mv) := by simp [World.cell?, hB3]
  have hx3 : w.heap.size < W3.heap.size := by omega
  go_wp2_with fail
  have kk3 : Calls Tryz.prog 57 #[.map mv] W3 (MapCl m.attrs W3) := mapClone_any (HO.out.2.2.2.2.2.1.mv (U := S) (fun _ _ h => h) fun b e _ => K3.out.1.block b (by have hq := HO.out.2.2.2.2.2.1; rw [e] at hq; exact hq.lt))
  refine kk3.mono ?_
  rintro e V4 ⟨mv3, rfl, ho3, hb3⟩
  have hBV3 : V4.heap[w.heap.size]? = some (.cells #[.int .i64 m.kind, .int .i64 m.frm, .slice n3 n1 n4, .slice t3 t1 t4, .bool m.self, .slice a3 a1 a4, .map mv, .int .i64 m.at_, .slice p0 p1 p2, .slice q0 q1 q2, .bool m.cnt] 72 (0, 0)) := (hb3.block _ hx3).trans hB3
  have sV3 : w.heap.size + 2 ≤ V4.heap.size := Nat.le_trans sz3 hb3.size
  have c3 : V4.cell? ⟨w.heap.size, 6, none⟩ = some (.map mv) := by simp [World.cell?, hBV3]
  have f3 : V4.frozen? ⟨w.heap.size, 6, none⟩ = false := by simp [World.frozen?, hBV3]
  obtain ⟨W4, hW4⟩ : ∃ W4, V4.setCell ⟨w.heap.size, 6, none⟩ (.map mv3) = W4 := ⟨_, rfl⟩
  have hB4 : W4.heap[w.heap.size]? = some (.cells #[.int .i64 m.kind, .int .i64 m.frm, .slice n3 n1 n4, .slice t3 t1 t4, .bool m.self, .slice a3 a1 a4, .map mv3, .int .i64 m.at_, .slice p0 p1 p2, .slice q0 q1 q2, .bool m.cnt] 72 (0, 0)) := by rw [← hW4]; simp [World.setCell, Array.getElem?_modify, hBV3]
  have sz4 : w.heap.size + 2 ≤ W4.heap.size := by rw [← hW4]; simpa [World.setCell] using sV3
  have bs3 : Below w.heap.size V4 W4 := by rw [← hW4]; exact ⟨rfl, rfl, rfl, by simp [World.setCell], fun k hk => Below.heap_setCell _ _ _ _ (fun e => by simp only at e; omega)⟩
  have K4 : Hid (Below w.heap.size w W4 ∧ Bag (fun k => k < w.heap.size + 2) W4 [rwN (.slice n3 n1 n4) m.nm, rwB (.slice t3 t1 t4) m.tx, rwA (.slice a3 a1 a4) m.attrs] ∧ W4.heap[w.heap.size + 1]? = some (.cells #[.int .i64 0, .int .i64 0, .slice none 0 0, .slice none 0 0, .bool false, .slice none 0 0, .map none, .int .i64 0, .slice none 0 0, .slice none 0 0, .bool false] 72 (0, 0)) ∧ Names (fun k => k < w.heap.size + 2) W4 m.attrs (.map mv3)) := by
    have hqb : Below w.heap.size w V4 := K3.out.1.trans (hb3.mono K3.out.1.size)
    refine ⟨hqb.trans bs3, ?_, ?_, ?_⟩
    · rw [← hW4]
      exact ((K3.out.2.1.below hb3).set (p := ⟨w.heap.size, 6, none⟩) (by show w.heap.size < _; omega) (.map mv3))
    · rw [← hW4, Below.heap_setCell _ _ _ _ (by simp), hb3.block _ (by have := sz3; omega)]
      exact K3.out.2.2
    · rw [← hW4]
      exact names_set (ho3.mv (U := fun k => k < w.heap.size + 2) (fun _ _ h1 h2 => h1 (by have := sz3; omega)) fun _ _ _ => rfl) (p := ⟨w.heap.size, 6, none⟩) (by show w.heap.size < _; omega) (.map mv3)
  clear kk3 ho3 hb3 hBV3 sV3 bs3 K3 hB3 d6 hx3 sz3
  have d8 : W4.cell? ⟨w.heap.size, 8, none⟩ = some (.slice p0 p1 p2) := by simp [World.cell?, hB4]
  have hx4 : w.heap.size < W4.heap.size := by omega
  go_wp2_with fail
  have kk4 : Calls Tryz.prog 55 #[.slice p0 p1 p2] W4 (Cloned 5 1 m.an.length (Lib.byteCells m.an) W4) := cloneB_any (own_mv HO.out.2.2.2.1 fun g hg => K4.out.1.block g (own_blk HO.out.2.2.2.1 hg).1) (bytes_one _) (by have := HO.out.2.2.2.2.2.2.2.2.2.2.2; unfold Mc.tot at this; omega)
  refine kk4.mono ?_
  rintro e V5 ⟨p3, p4, rfl, ho4, hb4⟩
  have el4 : m.an.length = p1 := by have := HO.out; omega
  rw [el4] at ho4 ⊢
  have hBV4 : V5.heap[w.heap.size]? = some (.cells #[.int .i64 m.kind, .int .i64 m.frm, .slice n3 n1 n4, .slice t3 t1 t4, .bool m.self, .slice a3 a1 a4, .map mv3, .int .i64 m.at_, .slice p0 p1 p2, .slice q0 q1 q2, .bool m.cnt] 72 (0, 0)) := (hb4.block _ hx4).trans hB4
  have sV4 : w.heap.size + 2 ≤ V5.heap.size := Nat.le_trans sz4 hb4.size
  have c4 : V5.cell? ⟨w.heap.size, 8, none⟩ = some (.slice p0 p1 p2) := by simp [World.cell?, hBV4]
  have f4 : V5.frozen? ⟨w.heap.size, 8, none⟩ = false := by simp [World.frozen?, hBV4]
  obtain ⟨W5, hW5⟩ : ∃ W5, V5.setCell ⟨w.heap.size, 8, none⟩ (.slice p3 p1 p4) = W5 := ⟨_, rfl⟩
  have hB5 : W5.heap[w.heap.size]? = some (.cells #[.int .i64 m.kind, .int .i64 m.frm, .slice n3 n1 n4, .slice t3 t1 t4, .bool m.self, .slice a3 a1 a4, .map mv3, .int .i64 m.at_, .slice p3 p1 p4, .slice q0 q1 q2, .bool m.cnt] 72 (0, 0)) := by rw [← hW5]; simp [World.setCell, Array.getElem?_modify, hBV4]
  have sz5 : w.heap.size + 2 ≤ W5.heap.size := by rw [← hW5]; simpa [World.setCell] using sV4
  have bs4 : Below w.heap.size V5 W5 := by rw [← hW5]; exact ⟨rfl, rfl, rfl, by simp [World.setCell], fun k hk => Below.heap_setCell _ _ _ _ (fun e => by simp only at e; omega)⟩
  have OUT4 : ∀ g, (rwB (.slice p3 p1 p4) m.an : Rw).v.ownBlock = some g → W4.heap.size ≤ g := fun g hg => by
    rcases ho4.2 with ⟨e, _⟩ | ⟨g', cap, cur, e, hB, _⟩
    · rw [show (rwB (.slice p3 p1 p4) m.an : Rw).v = .slice p3 p1 p4 from rfl, e] at hg; simp [Value.ownBlock] at hg
    · rw [show (rwB (.slice p3 p1 p4) m.an : Rw).v = .slice p3 p1 p4 from rfl, e] at hg; simp [Value.ownBlock] at hg; omega
  have K5 : Hid (Below w.heap.size w W5 ∧ Bag (fun k => k < w.heap.size + 2) W5 [rwN (.slice n3 n1 n4) m.nm, rwB (.slice t3 t1 t4) m.tx, rwA (.slice a3 a1 a4) m.attrs, rwB (.slice p3 p1 p4) m.an] ∧ W5.heap[w.heap.size + 1]? = some (.cells #[.int .i64 0, .int .i64 0, .slice none 0 0, .slice none 0 0, .bool false, .slice none 0 0, .map none, .int .i64 0, .slice none 0 0, .slice none 0 0, .bool false] 72 (0, 0)) ∧ Names (fun k => k < w.heap.size + 2) W5 m.attrs (.map mv3)) := by
    have hqb : Below w.heap.size w V5 := K4.out.1.trans (hb4.mono K4.out.1.size)
    refine ⟨hqb.trans bs4, ?_, ?_, ?_⟩
    · rw [← hW5]
      exact ((K4.out.2.1.snoc (fun k hk => by omega) hb4 (r := rwB (.slice p3 p1 p4) m.an) (OwnQ.of (B := W4.heap.size) (by rw [← el4] at ho4; rw [← el4]; exact ho4)) OUT4).set (p := ⟨w.heap.size, 8, none⟩) (by show w.heap.size < _; omega) (.slice p3 p1 p4))
    · rw [← hW5, Below.heap_setCell _ _ _ _ (by simp), hb4.block _ (by have := sz4; omega)]
      exact K4.out.2.2.1
    · rw [← hW5]
      exact names_set (K4.out.2.2.2.mv (fun _ _ h => h) fun b e _ => hb4.block b (by have hq := K4.out.2.2.2; rw [e] at hq; exact hq.lt)) (p := ⟨w.heap.size, 8, none⟩) (by show w.heap.size < _; omega) (.slice p3 p1 p4)
  clear kk4 ho4 hb4 hBV4 sV4 bs4 K4 hB4 d8 hx4 sz4 OUT4 el4
  have d9 : W5.cell? ⟨w.heap.size, 9, none⟩ = some (.slice q0 q1 q2) := by simp [World.cell?, hB5]
  have hx5 : w.heap.size < W5.heap.size := by omega
  go_wp2_with fail
  have kk5 : Calls Tryz.prog 55 #[.slice q0 q1 q2] W5 (Cloned 5 1 m.av.length (Lib.byteCells m.av) W5) := cloneB_any (own_mv HO.out.2.2.2.2.1 fun g hg => K5.out.1.block g (own_blk HO.out.2.2.2.2.1 hg).1) (bytes_one _) (by have := HO.out.2.2.2.2.2.2.2.2.2.2.2; unfold Mc.tot at this; omega)
  refine kk5.mono ?_
  rintro e V6 ⟨q3, q4, rfl, ho5, hb5⟩
  have el5 : m.av.length = q1 := by have := HO.out; omega
  rw [el5] at ho5 ⊢
  have hBV5 : V6.heap[w.heap.size]? = some (.cells #[.int .i64 m.kind, .int .i64 m.frm, .slice n3 n1 n4, .slice t3 t1 t4, .bool m.self, .slice a3 a1 a4, .map mv3, .int .i64 m.at_, .slice p3 p1 p4, .slice q0 q1 q2, .bool m.cnt] 72 (0, 0)) := (hb5.block _ hx5).trans hB5
  have sV5 : w.heap.size + 2 ≤ V6.heap.size := Nat.le_trans sz5 hb5.size
  have c5 : V6.cell? ⟨w.heap.size, 9, none⟩ = some (.slice q0 q1 q2) := by simp [World.cell?, hBV5]
  have f5 : V6.frozen? ⟨w.heap.size, 9, none⟩ = false := by simp [World.frozen?, hBV5]
  obtain ⟨W6, hW6⟩ : ∃ W6, V6.setCell ⟨w.heap.size, 9, none⟩ (.slice q3 q1 q4) = W6 := ⟨_, rfl⟩
  have hB6 : W6.heap[w.heap.size]? = some (.cells #[.int .i64 m.kind, .int .i64 m.frm, .slice n3 n1 n4, .slice t3 t1 t4, .bool m.self, .slice a3 a1 a4, .map mv3, .int .i64 m.at_, .slice p3 p1 p4, .slice q3 q1 q4, .bool m.cnt] 72 (0, 0)) := by rw [← hW6]; simp [World.setCell, Array.getElem?_modify, hBV5]
  have sz6 : w.heap.size + 2 ≤ W6.heap.size := by rw [← hW6]; simpa [World.setCell] using sV5
  have bs5 : Below w.heap.size V6 W6 := by rw [← hW6]; exact ⟨rfl, rfl, rfl, by simp [World.setCell], fun k hk => Below.heap_setCell _ _ _ _ (fun e => by simp only at e; omega)⟩
  have OUT5 : ∀ g, (rwB (.slice q3 q1 q4) m.av : Rw).v.ownBlock = some g → W5.heap.size ≤ g := fun g hg => by
    rcases ho5.2 with ⟨e, _⟩ | ⟨g', cap, cur, e, hB, _⟩
    · rw [show (rwB (.slice q3 q1 q4) m.av : Rw).v = .slice q3 q1 q4 from rfl, e] at hg; simp [Value.ownBlock] at hg
    · rw [show (rwB (.slice q3 q1 q4) m.av : Rw).v = .slice q3 q1 q4 from rfl, e] at hg; simp [Value.ownBlock] at hg; omega
  have K6 : Hid (Below w.heap.size w W6 ∧ Bag (fun k => k < w.heap.size + 2) W6 [rwN (.slice n3 n1 n4) m.nm, rwB (.slice t3 t1 t4) m.tx, rwA (.slice a3 a1 a4) m.attrs, rwB (.slice p3 p1 p4) m.an, rwB (.slice q3 q1 q4) m.av] ∧ W6.heap[w.heap.size + 1]? = some (.cells #[.int .i64 0, .int .i64 0, .slice none 0 0, .slice none 0 0, .bool false, .slice none 0 0, .map none, .int .i64 0, .slice none 0 0, .slice none 0 0, .bool false] 72 (0, 0)) ∧ Names (fun k => k < w.heap.size + 2) W6 m.attrs (.map mv3)) := by
    have hqb : Below w.heap.size w V6 := K5.out.1.trans (hb5.mono K5.out.1.size)
    refine ⟨hqb.trans bs5, ?_, ?_, ?_⟩
    · rw [← hW6]
      exact ((K5.out.2.1.snoc (fun k hk => by omega) hb5 (r := rwB (.slice q3 q1 q4) m.av) (OwnQ.of (B := W5.heap.size) (by rw [← el5] at ho5; rw [← el5]; exact ho5)) OUT5).set (p := ⟨w.heap.size, 9, none⟩) (by show w.heap.size < _; omega) (.slice q3 q1 q4))
    · rw [← hW6, Below.heap_setCell _ _ _ _ (by simp), hb5.block _ (by have := sz5; omega)]
      exact K5.out.2.2.1
    · rw [← hW6]
      exact names_set (K5.out.2.2.2.mv (fun _ _ h => h) fun b e _ => hb5.block b (by have hq := K5.out.2.2.2; rw [e] at hq; exact hq.lt)) (p := ⟨w.heap.size, 9, none⟩) (by show w.heap.size < _; omega) (.slice q3 q1 q4)
  clear kk5 ho5 hb5 hBV5 sV5 bs5 K5 hB5 d9 hx5 sz5 OUT5 el5
  have d0 : W6.cell? ⟨w.heap.size, 0, none⟩ = some (.int .i64 m.kind) := by simp [World.cell?, hB6]
  have d1 : W6.cell? ⟨w.heap.size, 1, none⟩ = some (.int .i64 m.frm) := by simp [World.cell?, hB6]
  have d2 : W6.cell? ⟨w.heap.size, 2, none⟩ = some (.slice n3 n1 n4) := by simp [World.cell?, hB6]
  have d3 : W6.cell? ⟨w.heap.size, 3, none⟩ = some (.slice t3 t1 t4) := by simp [World.cell?, hB6]
  have d4 : W6.cell? ⟨w.heap.size, 4, none⟩ = some (.bool m.self) := by simp [World.cell?, hB6]
  have d5 : W6.cell? ⟨w.heap.size, 5, none⟩ = some (.slice a3 a1 a4) := by simp [World.cell?, hB6]
  have d6 : W6.cell? ⟨w.heap.size, 6, none⟩ = some (.map mv3) := by simp [World.cell?, hB6]
  have d7 : W6.cell? ⟨w.heap.size, 7, none⟩ = some (.int .i64 m.at_) := by simp [World.cell?, hB6]
  have d8 : W6.cell? ⟨w.heap.size, 8, none⟩ = some (.slice p3 p1 p4) := by simp [World.cell?, hB6]
  have d9 : W6.cell? ⟨w.heap.size, 9, none⟩ = some (.slice q3 q1 q4) := by simp [World.cell?, hB6]
  have d10 : W6.cell? ⟨w.heap.size, 10, none⟩ = some (.bool m.cnt) := by simp [World.cell?, hB6]
  have hx : w.heap.size < W6.heap.size := by omega
  have hC : W6.heap[w.heap.size + 1]? = some (.cells #[.int .i64 0, .int .i64 0, .slice none 0 0, .slice none 0 0, .bool false, .slice none 0 0, .map none, .int .i64 0, .slice none 0 0, .slice none 0 0, .bool false] 72 (0, 0)) := K6.out.2.2.1
  have hxC : w.heap.size + 1 < W6.heap.size := by omega
  have e0 : W6.cell? ⟨w.heap.size + 1, 0, none⟩ = some (.int .i64 0) := by simp [World.cell?, hC]
  have r0 : W6.frozen? ⟨w.heap.size + 1, 0, none⟩ = false := by simp [World.frozen?, hC]
  have e1 : W6.cell? ⟨w.heap.size + 1, 1, none⟩ = some (.int .i64 0) := by simp [World.cell?, hC]
  have r1 : W6.frozen? ⟨w.heap.size + 1, 1, none⟩ = false := by simp [World.frozen?, hC]
  have e2 : W6.cell? ⟨w.heap.size + 1, 2, none⟩ = some (.slice none 0 0) := by simp [World.cell?, hC]
  have r2 : W6.frozen? ⟨w.heap.size + 1, 2, none⟩ = false := by simp [World.frozen?, hC]
  have e3 : W6.cell? ⟨w.heap.size + 1, 3, none⟩ = some (.slice none 0 0) := by simp [World.cell?, hC]
  have r3 : W6.frozen? ⟨w.heap.size + 1, 3, none⟩ = false := by simp [World.frozen?, hC]
  have e4 : W6.cell? ⟨w.heap.size + 1, 4, none⟩ = some (.bool false) := by simp [World.cell?, hC]
  have r4 : W6.frozen? ⟨w.heap.size + 1, 4, none⟩ = false := by simp [World.frozen?, hC]
  have e5 : W6.cell? ⟨w.heap.size + 1, 5, none⟩ = some (.slice none 0 0) := by simp [World.cell?, hC]
  have r5 : W6.frozen? ⟨w.heap.size + 1, 5, none⟩ = false := by simp [World.frozen?, hC]
  have e6 : W6.cell? ⟨w.heap.size + 1, 6, none⟩ = some (.map none) := by simp [World.cell?, hC]
  have r6 : W6.frozen? ⟨w.heap.size + 1, 6, none⟩ = false := by simp [World.frozen?, hC]
  have e7 : W6.cell? ⟨w.heap.size + 1, 7, none⟩ = some (.int .i64 0) := by simp [World.cell?, hC]
  have r7 : W6.frozen? ⟨w.heap.size + 1, 7, none⟩ = false := by simp [World.frozen?, hC]
  have e8 : W6.cell? ⟨w.heap.size + 1, 8, none⟩ = some (.slice none 0 0) := by simp [World.cell?, hC]
  have r8 : W6.frozen? ⟨w.heap.size + 1, 8, none⟩ = false := by simp [World.frozen?, hC]
  have e9 : W6.cell? ⟨w.heap.size + 1, 9, none⟩ = some (.slice none 0 0) := by simp [World.cell?, hC]
  have r9 : W6.frozen? ⟨w.heap.size + 1, 9, none⟩ = false := by simp [World.frozen?, hC]
  have e10 : W6.cell? ⟨w.heap.size + 1, 10, none⟩ = some (.bool false) := by simp [World.cell?, hC]
  have r10 : W6.frozen? ⟨w.heap.size + 1, 10, none⟩ = false := by simp [World.frozen?, hC]
  have hD : (setAll W6 (w.heap.size + 1) [(0, .int .i64 m.kind), (1, .int .i64 m.frm), (2, .slice n3 n1 n4), (3, .slice t3 t1 t4), (4, .bool m.self), (5, .slice a3 a1 a4), (6, .map mv3), (7, .int .i64 m.at_), (8, .slice p3 p1 p4), (9, .slice q3 q1 q4), (10, .bool m.cnt)]).heap[w.heap.size + 1]? = some (.cells #[.int .i64 m.kind, .int .i64 m.frm, .slice n3 n1 n4, .slice t3 t1 t4, .bool m.self, .slice a3 a1 a4, .map mv3, .int .i64 m.at_, .slice p3 p1 p4, .slice q3 q1 q4, .bool m.cnt] 72 (0, 0)) := by
    rw [setAll_blk _ _ _ _ _ _ hC]
    simp
  have HF : Hid ((setAll W6 (w.heap.size + 1) [(0, .int .i64 m.kind), (1, .int .i64 m.frm), (2, .slice n3 n1 n4), (3, .slice t3 t1 t4), (4, .bool m.self), (5, .slice a3 a1 a4), (6, .map mv3), (7, .int .i64 m.at_), (8, .slice p3 p1 p4), (9, .slice q3 q1 q4), (10, .bool m.cnt)]).heap[w.heap.size + 1]? = some (.cells #[.int .i64 m.kind, .int .i64 m.frm, .slice n3 n1 n4, .slice t3 t1 t4, .bool m.self, .slice a3 a1 a4, .map mv3, .int .i64 m.at_, .slice p3 p1 p4, .slice q3 q1 q4, .bool m.cnt] 72 (0, 0)) ∧ Copied m n1 t1 a1 p1 q1 w (.returned (.agg #[.int .i64 m.kind, .int .i64 m.frm, .slice n3 n1 n4, .slice t3 t1 t4, .bool m.self, .slice a3 a1 a4, .map mv3, .int .i64 m.at_, .slice p3 p1 p4, .slice q3 q1 q4, .bool m.cnt])) (setAll W6 (w.heap.size + 1) [(0, .int .i64 m.kind), (1, .int .i64 m.frm), (2, .slice n3 n1 n4), (3, .slice t3 t1 t4), (4, .bool m.self), (5, .slice a3 a1 a4), (6, .map mv3), (7, .int .i64 m.at_), (8, .slice p3 p1 p4), (9, .slice q3 q1 q4), (10, .bool m.cnt)])) := by
    refine ⟨hD, n3, n4, t3, t4, a3, a4, mv3, p3, p4, q3, q4, rfl, ?_, ?_, ?_, ?_⟩
    · refine ⟨fun i r hr => own_mv (K6.out.2.1.own i r hr) fun g hg => setAll_ne _ _ _ g fun e => ?_, K6.out.2.1.out, K6.out.2.1.apart⟩
      exact K6.out.2.1.out i r hr g hg (by show g < _; omega)
    · exact K6.out.2.2.2.mv (fun _ _ h => h) fun b _ hb => setAll_ne _ _ _ b fun e => hb (by show b < _; omega)
    · intro b e cur ee zz hh
      subst e
      have hnn := K6.out.2.2.2
      have hne : b ≠ w.heap.size + 1 := by
        rcases hnn.2 with ⟨_, e2⟩ | ⟨_, b', e2, hb', _⟩
        · cases e2
        · cases e2
          intro e3
          exact hb' (by show b < _; omega)
      rw [setAll_ne _ _ _ b hne] at hh
      exact hnn.obj _ _ _ hh
    · have q : Below w.heap.size W6 (setAll W6 (w.heap.size + 1) [(0, .int .i64 m.kind), (1, .int .i64 m.frm), (2, .slice n3 n1 n4), (3, .slice t3 t1 t4), (4, .bool m.self), (5, .slice a3 a1 a4), (6, .map mv3), (7, .int .i64 m.at_), (8, .slice p3 p1 p4), (9, .slice q3 q1 q4), (10, .bool m.cnt)]) := ⟨(setAll_rest _ _ _).1, (setAll_rest _ _ _).2.1, (setAll_rest _ _ _).2.2, by rw [setAll_size]; exact Nat.le_refl _, fun k hk => setAll_ne _ _ _ k (by omega)⟩
      exact K6.out.1.trans q
  clear hC hD K6 hB6
  go_wp2_with fail
  show bodyPost Tryz.prog Tryz.f32 (Copied m n1 t1 a1 p1 q1 w) Exit.ret _ (setAll W6 (w.heap.size + 1) [(0, .int .i64 m.kind), (1, .int .i64 m.frm), (2, .slice n3 n1 n4), (3, .slice t3 t1 t4), (4, .bool m.self), (5, .slice a3 a1 a4), (6, .map mv3), (7, .int .i64 m.at_), (8, .slice p3 p1 p4), (9, .slice q3 q1 q4), (10, .bool m.cnt)])
  refine bodyPost_ret (results_cell_row rfl _ _ (w.heap.size + 1) 72 #[.int .i64 m.kind, .int .i64 m.frm, .slice n3 n1 n4, .slice t3 t1 t4, .bool m.self, .slice a3 a1 a4, .map mv3, .int .i64 m.at_, .slice p3 p1 p4, .slice q3 q1 q4, .bool m.cnt] (0, 0) _ rfl HF.out.1 Tryz.underlying72 rfl (by kernel_rfl)) rfl ?_
  exact HF.out.2
end Go.Proofs.YtjjfalbngcbfaaaGreatDoor

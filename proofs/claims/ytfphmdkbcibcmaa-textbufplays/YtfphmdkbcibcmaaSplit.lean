/- What becomes of a buffer in memory when one of its pieces is parted in two. -/
import Derived.Test.YtfphmdkbcibcmaaDel
import Derived.Test.YtfphmdkbcibcmaaPart
namespace Go.Proofs.Ytfphmdkbcibcmaa
open Go.RowKit

theorem Pc.head_val (p : Pc) (j : Nat) (h : j ≤ p.bs.length) : (p.head j).val = .slice (some ⟨p.g, p.off, none⟩) j j := by
  simp [Pc.val, Pc.head]; omega
theorem Pc.tail_val (p : Pc) (j : Nat) : (p.tail j).val = .slice (some ⟨p.g, p.off + j, none⟩) (p.bs.length - j) (p.bs.length - j) := by
  simp [Pc.val, Pc.tail]

theorem split_at {α : Type} (ps : List α) (k : Nat) (p : α) (hp : ps[k]? = some p) : ps = ps.take k ++ p :: ps.drop (k + 1) := by
  have hk : k < ps.length := (List.getElem?_eq_some_iff.1 hp).1
  conv => lhs; rw [← List.take_append_drop k ps, List.drop_eq_getElem_cons hk]
  congr 2; exact (List.getElem?_eq_some_iff.1 hp).2

theorem apart_head {p q : Pc} {j : Nat} (h : q.apart p) (hj : j ≤ p.cap) : q.apart (p.head j) := by
  rcases h with h | h | h
  · exact .inl h
  · exact .inr (.inl h)
  · refine .inr (.inr ?_); simp [Pc.head]; omega
theorem apart_tail {p q : Pc} {j : Nat} (h : q.apart p) (hj : p.bs.length ≤ p.cap) (hjl : j ≤ p.bs.length) : q.apart (p.tail j) := by
  rcases h with h | h | h
  · exact .inl h
  · refine .inr (.inl ?_); simp [Pc.tail]; omega
  · refine .inr (.inr ?_); simp [Pc.tail]; omega

theorem pairwise_split (ps : List Pc) (k j : Nat) (p : Pc) (hp : ps[k]? = some p) (h : ps.Pairwise Pc.apart) (hc : p.bs.length ≤ p.cap) (hj : j ≤ p.bs.length) :
    (ps.take k ++ p.head j :: p.tail j :: ps.drop (k + 1)).Pairwise Pc.apart := by
  rw [split_at ps k p hp, List.pairwise_append, List.pairwise_cons] at h
  obtain ⟨h1, ⟨h2, h3⟩, h4⟩ := h
  rw [List.pairwise_append, List.pairwise_cons, List.pairwise_cons]
  refine ⟨h1, ⟨?_, ?_, h3⟩, ?_⟩
  · intro q hq
    rcases List.mem_cons.1 hq with rfl | hq
    · exact .inr (.inl (by simp [Pc.head, Pc.tail]))
    · exact (apart_head (h2 q hq).symm (by omega)).symm
  · intro q hq
    exact (apart_tail (h2 q hq).symm hc hj).symm
  · intro a ha q hq
    have hap := h4 a ha
    rcases List.mem_cons.1 hq with rfl | hq
    · exact apart_head (hap p (by simp)) (by omega)
    · rcases List.mem_cons.1 hq with rfl | hq
      · exact apart_tail (hap p (by simp)) hc hj
      · exact hap q (by simp [hq])

/-- One cell of an owned row, stored into. -/
theorem own_set {w : World} {B e g cap n k : Nat} {xs : List Value} (h : w.ownsRow B e 1 (.slice (some ⟨g, 0, none⟩) n cap) n xs) (v : Value) (hk : k < n) :
    (w.setCell ⟨g, k, none⟩ v).ownsRow B e 1 (.slice (some ⟨g, 0, none⟩) n cap) n (xs.set k v) := by
  obtain ⟨hl, hop⟩ := own_open h
  rcases hop with ⟨hv, _⟩ | ⟨g', cap', cur, hv, hB, hb, hn, hm, hs, hc, ht, hf, hlt, hsh⟩
  · cases hv
  · simp only [Value.slice.injEq, Option.some.injEq, Addr.mk.injEq, and_true, true_and] at hv
    obtain ⟨rfl, rfl⟩ := hv
    have hb2 : (w.setCell ⟨g, k, none⟩ v).heap[g]? = some (.cells (cur.setIfInBounds k v) e (0, 0)) := by simp [World.setCell, Array.getElem?_modify, hb]
    refine own_of_cells hB hb2 (by simpa using hs) hm hn (by simpa using hl) ?_
    intro j hj
    have : (w.setCell ⟨g, k, none⟩ v).cell? ⟨g, j, none⟩ = (cur.setIfInBounds k v)[j]? := by simp [World.cell?, hb2]
    rw [this]
    by_cases hjk : j = k
    · subst hjk
      rw [Array.getElem?_setIfInBounds_self_of_lt (by omega), List.getElem?_set_self (by omega)]
    · rw [Array.getElem?_setIfInBounds_ne (by omega), List.getElem?_set_ne (by omega)]
      have := hc j xs[j] (List.getElem?_eq_getElem (by omega))
      rw [List.getElem?_eq_getElem (by omega), ← this]
      simp [World.cell?, hb]

/-- The place of an insert may be told by any int that is it. -/
theorem insert_at (B : Nat) (pv x : Value) (n i vb : Nat) (iz : Int) (hiz : iz = (i : Int)) (xs : List Value) (w : World) (hown : w.ownsRow B 59 1 pv n xs) (hx : w.heap[vb]? = some (.cells #[x] 59 (0, 0))) (h1v : x.oneCell' = true) (h1c : ∀ v ∈ xs, v.oneCell' = true)
    (hi : i ≤ n) (hn : n ≤ 1000000) (hB : B ≤ w.heap.size) (hvb : some vb ≠ pv.ownBlock) :
    Calls Try.prog 29 #[pv, .int .i64 iz, .slice (some ⟨vb, 0, none⟩) 1 1] w fun e w' => ∃ ao n' c', e = .returned (.slice ao n' c') ∧ w'.ownsRow B 59 1 (.slice ao n' c') (n + 1) (xs.take i ++ x :: xs.drop i) ∧ w.grownBy w' pv.ownBlock := by
  subst hiz
  refine (insert_any B pv x n i vb xs w hown hx h1v h1c hi hn hB hvb).mono ?_
  rintro e w' ⟨v', he, ho, hg⟩
  rcases (own_open ho).2 with ⟨hv, _⟩ | ⟨g, cap, cur, hv, _⟩
  · subst hv; exact ⟨_, _, _, he, ho, hg⟩
  · subst hv; exact ⟨_, _, _, he, ho, hg⟩

theorem vals_one (ps : List Pc) : ∀ v ∈ ps.map Pc.val, v.oneCell' = true := by
  intro v hv
  obtain ⟨p, _, rfl⟩ := List.mem_map.1 hv
  rfl

/-- A buffer whose row of pieces is another one: the pieces' cells and the edits are as they were. -/
theorem BufIs.turn {T : List Nat} {B C b : Nat} {most len len' : Int} {ps ps' : List Pc} {es : List Ed} {w w' : World} {pv' : Value} (h : BufIs B b most len ps es w) (k : Kept T C w w') (h31 : 31 ∉ T)
    (hb : ∃ pv1 bv1 : Value, w.heap[b]? = some (.cells #[.int .i64 most, .int .i64 len, pv1, bv1] 54 (0, 0)) ∧ w'.heap[b]? = some (.cells #[.int .i64 most, .int .i64 len', pv', bv1] 54 (0, 0)))
    (ho : w'.ownsRow B 59 1 pv' ps'.length (ps'.map Pc.val)) (hp : ∀ p ∈ ps', PcOk B w' p) (ha : ps'.Pairwise Pc.apart) : BufIs B b most len' ps' es w' := by
  obtain ⟨pv1, bv1, e1, e2⟩ := hb
  obtain ⟨pv, bv, hblk, hrow, hed⟩ := h.blk
  rw [hblk] at e1
  simp only [Option.some.injEq, Obj.cells.injEq, Array.mk.injEq, List.cons.injEq, and_true, true_and] at e1
  obtain ⟨rfl, rfl⟩ := e1
  exact ⟨h.hb, ⟨pv', bv, e2, ho, own_kept hed k h31⟩, hp, ha⟩

/-- Parting piece k in memory: the head stored, the tail inserted, the row stored back. -/
theorem split_done {B b g n cap k j : Nat} {most len : Int} {ps : List Pc} {es : List Ed} {w W2 w3 : World} {p : Pc} {bv v' : Value} (h : BufIs B b most len ps es w) (hn : n = ps.length)
    (hblk : w.heap[b]? = some (.cells #[.int .i64 most, .int .i64 len, .slice (some ⟨g, 0, none⟩) n cap, bv] 54 (0, 0))) (hown : w.ownsRow B 59 1 (.slice (some ⟨g, 0, none⟩) n cap) n (ps.map Pc.val))
    (hpk : ps[k]? = some p) (hj0 : 0 < j) (hj : j < p.bs.length)
    (hW2 : W2 = (w.setCell ⟨g, k, none⟩ (p.head j).val).alloc (.cells #[(p.tail j).val] 59))
    (ho3 : w3.ownsRow B 59 1 v' (n + 1) (((ps.map Pc.val).set k (p.head j).val).take (k + 1) ++ (p.tail j).val :: ((ps.map Pc.val).set k (p.head j).val).drop (k + 1))) (hg3 : W2.grownBy w3 (some g)) :
    BufIs B b most len (ps.take k ++ p.head j :: p.tail j :: ps.drop (k + 1)) es (w3.setCell ⟨b, 2, none⟩ v') ∧ Kept [59, 54] B w (w3.setCell ⟨b, 2, none⟩ v') := by
  have hk : k < ps.length := (List.getElem?_eq_some_iff.1 hpk).1
  obtain ⟨g', cap', cur, hv, hBg, hgb, -⟩ : ∃ g' cap' cur, (Value.slice (some ⟨g, 0, none⟩) n cap) = .slice (some ⟨g', 0, none⟩) n cap' ∧ B ≤ g' ∧ w.heap[g']? = some (.cells cur 59 (0, 0)) ∧ True := by
    rcases (own_open hown).2 with ⟨hv, _⟩ | ⟨g', cap', cur, hv, hB, hb, _⟩
    · cases hv
    · exact ⟨g', cap', cur, hv, hB, hb, trivial⟩
  simp only [Value.slice.injEq, Option.some.injEq, Addr.mk.injEq, and_true, true_and] at hv
  obtain ⟨rfl, rfl⟩ := hv
  have hgb1 : (w.setCell ⟨g, k, none⟩ (p.head j).val).heap[g]? = some (.cells (cur.setIfInBounds k (p.head j).val) 59 (0, 0)) := by simp [World.setCell, Array.getElem?_modify, hgb]
  have K1 : Kept [59, 54] B w (w.setCell ⟨g, k, none⟩ (p.head j).val) := (Kept.refl _ _ _).setCell (p := ⟨g, k, none⟩) hgb (by simp) hBg _
  have K2 : Kept [59, 54] B w W2 := by rw [hW2]; exact K1.alloc _
  have hgb2 : W2.heap[g]? = some (.cells (cur.setIfInBounds k (p.head j).val) 59 (0, 0)) := by
    rw [hW2, Below.heap_alloc _ _ _ (Array.getElem?_eq_some_iff.1 hgb1).1]; exact hgb1
  have K3 : Kept [59, 54] B w w3 := K2.trans (Kept.ofGrown hg3 (fun r hr => by simp at hr; subst hr; exact ⟨hBg, _, _, _, hgb2, by simp⟩))
  have hgne : b ≠ g := fun e => by rw [e, hgb] at hblk; simp at hblk
  have hb2 : W2.heap[b]? = some (.cells #[.int .i64 most, .int .i64 len, .slice (some ⟨g, 0, none⟩) n cap, bv] 54 (0, 0)) := by
    have hb1 : (w.setCell ⟨g, k, none⟩ (p.head j).val).heap[b]? = _ := (Below.heap_setCell w ⟨g, k, none⟩ _ b hgne).trans hblk
    rw [hW2, Below.heap_alloc _ _ _ (Array.getElem?_eq_some_iff.1 hb1).1]; exact hb1
  have hb3 : w3.heap[b]? = some (.cells #[.int .i64 most, .int .i64 len, .slice (some ⟨g, 0, none⟩) n cap, bv] 54 (0, 0)) := by
    rw [hg3.block b (Array.getElem?_eq_some_iff.1 hb2).1 (by simpa using hgne)]; exact hb2
  have hb4 : (w3.setCell ⟨b, 2, none⟩ v').heap[b]? = some (.cells #[.int .i64 most, .int .i64 len, v', bv] 54 (0, 0)) := by simp [World.setCell, Array.getElem?_modify, hb3]
  have K4 : Kept [59, 54] B w (w3.setCell ⟨b, 2, none⟩ v') := K3.setCell (p := ⟨b, 2, none⟩) hb3 (by simp) h.hb _
  refine ⟨h.turn K4 (by simp) ⟨_, bv, hblk, hb4⟩ ?_ ?_ (pairwise_split ps k j p hpk h.apart (h.pcs p (List.mem_of_getElem? hpk)).le (by omega)), K4⟩
  · have hlist : (ps.map Pc.val).set k (p.head j).val = (ps.take k ++ p.head j :: ps.drop (k + 1)).map Pc.val := by
      rw [← List.map_set, List.set_eq_take_append_cons_drop, if_pos hk]
    have hX : ((ps.map Pc.val).set k (p.head j).val).take (k + 1) ++ (p.tail j).val :: ((ps.map Pc.val).set k (p.head j).val).drop (k + 1) = (ps.take k ++ p.head j :: p.tail j :: ps.drop (k + 1)).map Pc.val := by
      rw [hlist]
      have hl : (ps.take k ++ [p.head j]).length = k + 1 := by simp; omega
      rw [show ps.take k ++ p.head j :: ps.drop (k + 1) = (ps.take k ++ [p.head j]) ++ ps.drop (k + 1) by simp, List.map_append, List.take_append_of_le_length (by simp; omega), List.drop_append_of_le_length (by simp; omega), List.take_of_length_le (by simp; omega), List.drop_of_length_le (by simp; omega)]
      simp
    rw [hX] at ho3
    have hlen : n + 1 = (ps.take k ++ p.head j :: p.tail j :: ps.drop (k + 1)).length := by simp; omega
    rw [hlen] at ho3
    refine ⟨ho3.1, ?_⟩
    rcases ho3.2 with hn | ⟨g2, c2, cu2, hv2, hB2, hg2, rest⟩
    · exact .inl hn
    · refine .inr ⟨g2, c2, cu2, hv2, hB2, ?_, rest⟩
      rw [Below.heap_setCell _ _ _ _ (fun e => by simp only at e; rw [e, hb3] at hg2; simp at hg2)]
      exact hg2
  · intro q hq
    have hok := h.pcs p (List.mem_of_getElem? hpk)
    rcases List.mem_append.1 hq with hq | hq
    · exact (h.pcs q (List.mem_of_mem_take hq)).kept K4 (by simp)
    · rcases List.mem_cons.1 hq with rfl | hq
      · exact (hok.head j hj0 hj).kept K4 (by simp)
      · rcases List.mem_cons.1 hq with rfl | hq
        · exact (hok.tail j hj).kept K4 (by simp)
        · exact (h.pcs q (List.mem_of_mem_drop hq)).kept K4 (by simp)
end Go.Proofs.Ytfphmdkbcibcmaa

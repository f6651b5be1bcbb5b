/- An edit put behind those that take back, and the last one taken off, in memory. -/
import Derived.Test.YtfphmdkbcibcmaaSpl
namespace Go.Proofs.Ytfphmdkbcibcmaa
open Go.RowKit

theorem flat_len (es : List Ed) : (es.flatMap Ed.cells).length = es.length * 3 := by
  induction es with
  | nil => rfl
  | cons e r ih => rw [List.flatMap_cons, List.length_append, ih]; simp [Ed.cells]; omega

theorem own3_form {w : World} {B n : Nat} {v : Value} {xs : List Value} (h : w.ownsRow B 31 3 v n xs) : ∃ ao c, v = .slice ao n c := by
  rcases h.2 with ⟨hv, h0⟩ | ⟨g, cap, cur, hv, _⟩
  · exact ⟨none, 0, by rw [hv, h0]⟩
  · exact ⟨_, _, hv⟩

/-- A buffer whose row of edits is another one. -/
theorem BufIs.turnBack {B b : Nat} {most len : Int} {ps : List Pc} {es es' : List Ed} {w w' : World} {pv bv bv' : Value} (h : BufIs B b most len ps es w) (k : Kept [31, 54] B w w')
    (hb : w.heap[b]? = some (.cells #[.int .i64 most, .int .i64 len, pv, bv] 54 (0, 0))) (hb' : w'.heap[b]? = some (.cells #[.int .i64 most, .int .i64 len, pv, bv'] 54 (0, 0)))
    (ho : w'.ownsRow B 31 3 bv' es'.length (es'.flatMap Ed.cells)) : BufIs B b most len ps es' w' := by
  obtain ⟨pv1, bv1, hblk, hrow, hed⟩ := h.blk
  rw [hblk] at hb
  simp only [Option.some.injEq, Obj.cells.injEq, Array.mk.injEq, List.cons.injEq, and_true, true_and] at hb
  obtain ⟨rfl, rfl⟩ := hb
  exact ⟨h.hb, ⟨_, _, hb', own_kept hrow k (by simp), ho⟩, fun p hp => (h.pcs p hp).kept k (by simp), h.apart⟩

theorem own3_set {w : World} {B b n : Nat} {v : Value} {xs : List Value} {cs : Array Value} {i : Nat} {u : Value} (h : w.ownsRow B 31 3 v n xs) (hb : w.heap[b]? = some (.cells cs 54 (0, 0))) : (w.setCell ⟨b, i, none⟩ u).ownsRow B 31 3 v n xs := by
  refine ⟨h.1, ?_⟩
  rcases h.2 with hn | ⟨g2, c2, cu2, hv2, hB2, hg2, rest⟩
  · exact .inl hn
  · refine .inr ⟨g2, c2, cu2, hv2, hB2, ?_, rest⟩
    rw [Below.heap_setCell _ _ _ _ (fun e => by simp only at e; rw [e, hb] at hg2; simp at hg2)]
    exact hg2

theorem back_mem {B b E : Nat} {most len : Int} {ps : List Pc} {es : List Ed} {W : World} {pv : Value} {ao : Option Addr} {c : Nat} (x y : Int) (s : ByteArray) {cE : Array Value} (h : BufIs B b most len ps es W)
    (hblk : W.heap[b]? = some (.cells #[.int .i64 most, .int .i64 len, pv, .slice ao es.length c] 54 (0, 0))) (hown : W.ownsRow B 31 3 (.slice ao es.length c) es.length (es.flatMap Ed.cells)) (hB : B ≤ W.heap.size)
    (hE : W.heap[E]? = some (.cells cE 31 (0, 0))) (hne : some E ≠ (Value.slice ao es.length c).ownBlock) (hn : es.length ≤ 1000000) :
    ∃ ao' n' c' W', (Builtin.append_ #[45, 45] 45 #[.slice ao es.length c, .slice (some ⟨W.heap.size, 0, none⟩) 1 1]).run Try.prog (W.alloc (.cells #[.int .i64 x, .int .i64 y, .string s] 31)).drew = .ok (.slice ao' n' c') W' ∧
      W'.cell? ⟨b, 3, none⟩ = some (.slice ao es.length c) ∧ W'.frozen? ⟨b, 3, none⟩ = false ∧ (W'.setCell ⟨b, 3, none⟩ (.slice ao' n' c')).heap[E]? = some (.cells cE 31 (0, 0)) ∧
      BufIs B b most len ps (es ++ [⟨x, y, s⟩]) (W'.setCell ⟨b, 3, none⟩ (.slice ao' n' c')) ∧ Kept [31, 54] B W (W'.setCell ⟨b, 3, none⟩ (.slice ao' n' c')) := by
  obtain ⟨i0, hi0, hz0, hzs, hzb⟩ := info_parts info31
  obtain ⟨W1, hW1⟩ : ∃ W1, W1 = W.alloc (.cells #[.int .i64 x, .int .i64 y, .string s] 31) := ⟨_, rfl⟩
  have hbe : Below W.heap.size W W1 := by rw [hW1]; exact (Below.refl _ _).alloc (Nat.le_refl _) _
  have hnew : W1.heap[W.heap.size]? = some (.cells #[.int .i64 x, .int .i64 y, .string s] 31 (0, 0)) := by rw [hW1]; exact heap_alloc_new _ _
  have ho1 : W1.ownsRow B 31 3 (.slice ao es.length c) es.length (es.flatMap Ed.cells) := own_kept hown (Kept.ofBelow (T := []) (B := 0) hbe) (by simp)
  have hz : W1.heap.size = W.heap.size + 1 := by rw [hW1]; simp
  obtain ⟨v', W', hrun, ho, hg, _⟩ := run_append_own (P := Try.prog) W1.drew B 45 45 31 i0 _ 3 32 Try.underlying45 hi0 hz0 hzs hzb rfl (by decide) (.slice ao es.length c) es.length (es.flatMap Ed.cells) ho1 ⟨W.heap.size, 0, none⟩ 1 1 [.int .i64 x, .int .i64 y, .string s] rfl
    (fun j u hj => by
      rw [Addr.add_lit, Nat.zero_add]
      simp only [World.cell?_drew]
      match j, hj with
      | 0, hj => simp at hj; subst hj; simp [World.cell?, hnew]
      | 1, hj => simp at hj; subst hj; simp [World.cell?, hnew]
      | 2, hj => simp at hj; subst hj; simp [World.cell?, hnew])
    (by simp [Value.oneCell']) (by unfold maxLen; omega) (by omega) (by show B ≤ W1.heap.size; omega)
  obtain ⟨ao', c', rfl⟩ := own3_form ho
  have hg1 : W1.grownBy W' (Value.slice ao es.length c).ownBlock := grown_of_drew hg
  have hrow : ∀ k, (Value.slice ao es.length c).ownBlock = some k → B ≤ k ∧ k < W.heap.size ∧ ∃ cu, W1.heap[k]? = some (.cells cu 31 (0, 0)) := fun k hk => by
    rcases hown.2 with ⟨hv, _⟩ | ⟨g, cap, cur, hv, hB', hgb, _⟩
    · rw [hv] at hk; simp [Value.ownBlock] at hk
    · rw [hv] at hk; simp [Value.ownBlock] at hk; subst hk
      have hlt := (Array.getElem?_eq_some_iff.1 hgb).1
      exact ⟨hB', hlt, cur, by rw [hbe.block g hlt]; exact hgb⟩
  have hbw : b < W.heap.size := (Array.getElem?_eq_some_iff.1 hblk).1
  have hb1 : W1.heap[b]? = some (.cells #[.int .i64 most, .int .i64 len, pv, .slice ao es.length c] 54 (0, 0)) := by rw [hbe.block b hbw]; exact hblk
  have hbne : some b ≠ (Value.slice ao es.length c).ownBlock := fun e => by
    obtain ⟨_, _, cu, hc⟩ := hrow b e.symm
    rw [hb1] at hc; simp at hc
  have hb2 : W'.heap[b]? = some (.cells #[.int .i64 most, .int .i64 len, pv, .slice ao es.length c] 54 (0, 0)) := by rw [hg1.block b (by omega) hbne]; exact hb1
  have hb3 : (W'.setCell ⟨b, 3, none⟩ (.slice ao' (es.length + 1) c')).heap[b]? = some (.cells #[.int .i64 most, .int .i64 len, pv, .slice ao' (es.length + 1) c'] 54 (0, 0)) := by simp [World.setCell, Array.getElem?_modify, hb2]
  have K1 : Kept [31, 54] B W W' := (Kept.ofBelow hbe).trans (Kept.ofGrown hg1 (fun k hk => by
    obtain ⟨a1, _, cu, a2⟩ := hrow k hk
    exact ⟨a1, cu, 31, (0, 0), a2, by simp⟩))
  have K2 : Kept [31, 54] B W (W'.setCell ⟨b, 3, none⟩ (.slice ao' (es.length + 1) c')) := K1.setCell (p := ⟨b, 3, none⟩) hb2 (by simp) h.hb _
  have hEw : E < W.heap.size := (Array.getElem?_eq_some_iff.1 hE).1
  have hEb : E ≠ b := fun e => by rw [e, hblk] at hE; simp at hE
  refine ⟨ao', _, c', W', by rw [← hW1]; exact hrun, by simp [World.cell?, hb2], by simp [World.frozen?, hb2], ?_, ?_, K2⟩
  · rw [Below.heap_setCell _ _ _ _ hEb, hg1.block E (by omega) hne, hbe.block E hEw]; exact hE
  · refine h.turnBack K2 hblk hb3 ?_
    rw [List.length_append, List.length_singleton, List.flatMap_append]
    exact own3_set ho hb2
end Go.Proofs.Ytfphmdkbcibcmaa
